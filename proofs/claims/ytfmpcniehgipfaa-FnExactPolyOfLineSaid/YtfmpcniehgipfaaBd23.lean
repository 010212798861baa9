/-
  Contracts of the sum of two polynomials, of the model and of the program, and the walk of the exact law of AddPoly. Conditions: none but that the slices read as lists of terms.
  MakePoly, of the model and of the program. Conditions: what the slice holds is known.
  The terms that the elements of a line become in one of three unknowns. Conditions: none.
  PolyOfLine of the program. Conditions: what the slice holds is known.
  PolyOfLine of the model. Conditions: what the slice holds is known.
  The walk of the exact law of PolyOfLine. Conditions: none but that the slices read as lists.
-/
import Derived.Test.YtfmpcniehgipfaaBd19
import Derived.Lib.AppendZeros
import Derived.Test.YtfmpcniehgipfaaBd22
import Derived.Test.YtfmpcniehgipfaaBd8
import Derived.Test.YtfmpcniehgipfaaBd13
import Derived.Test.YtfmpcniehgipfaaBd11
import Derived.Test.YtfmpcniehgipfaaBd14
namespace Go.Proofs.Ytfmpcniehgipfaa
open Go.RowKit
/-- nothing appended to nothing -/
theorem run_append_none {P : Program} (w : World) (t ty e : TypeId) (i : TypeInfo) (ht : P.underlying t = some (.slice e)) (hi : P.info? e = some i) (b : Addr) :
    (Builtin.append_ #[t, t] ty #[.slice (some b) 0 0, .slice none 0 0]).run P w = .ok (.slice (some b) 0 0) w := by
  simp [Builtin.append_, run_underlying ht, sizeOf, typeInfo, hi, Builtin.lenOf, Builtin.firstCells, storeCells]
theorem wpList_append_none {P : Program} {w : World} {ops : Array Oper} {rest : List Oper} {o : Oper} {a : Act} {Q : Exit → Act → World → Prop} (hgd : o.guard = none) (s x : Operand) (t e : TypeId) (i : TypeInfo)
    (ho : o.op = .call { callee := .builtin .append, args := #[s, x], argTypes := #[t, t] }) (ht : P.underlying t = some (.slice e)) (hi : P.info? e = some i) (b : Addr) (hs : a.eval s = .slice (some b) 0 0) (hx : a.eval x = .slice none 0 0)
    (h : wpList P ops Q rest (a.put o.dst (.slice (some b) 0 0)) w) : wpList P ops Q (o :: rest) a w := by
  refine wpList_plain hgd fun _ hK => ?_
  have hr := run_append_none w t o.type e i ht hi b
  have he : (execOp a.eval o).run P w = .ok (.value (.slice (some b) 0 0)) w := by
    unfold execOp
    simp only [ho, resolve, invoke, builtin, Sem.run_bind, Sem.run_pure, Result.andThen_ok, List.map_toArray, List.map_cons, List.map_nil, hs, hx, hr]
  unfold Oper.wp
  rw [he]
  exact hK _ _ h
theorem addT_nil {p : Int} {x : Trm} (hx : ¬ x.t = 0) : addT p x [] = [x] := by
  unfold addT
  rw [if_neg hx, if_neg (by simp [hit])]
  simp [plc]
set_option maxRecDepth 100000 in
set_option maxHeartbeats 16000000 in
theorem sAddNil (B S : Nat) (p : Int) (x : Trm) (w : World) (hS : ModW w S (.slice none 0 0)) (hB : B ≤ w.heap.size) :
    Calls Try.prog 96 #[.pointer (some ⟨S, 0, none⟩), .int .i64 p, .agg #[.int .i64 x.a, .int .i64 x.b, .int .i64 x.c, .int .i64 x.t]] w (AddTo B S (.slice none 0 0) (addT p x []) w) := by
  obtain ⟨i0, hi, hz0, hz1, hz2⟩ := info_parts infoT
  have HMO := Lib.hid hS
  obtain ⟨s0, sf, ssz⟩ := hS
  go_enter Try.func96, Try.ntmps96
  go_wp2_with fail
  obtain ⟨W, hW⟩ : ∃ W, W = w.alloc (Obj.cells #[.int .i64 x.a, .int .i64 x.b, .int .i64 x.c, .int .i64 x.t] 91) := ⟨_, rfl⟩
  have hb0 : Below w.heap.size w W := by rw [hW]; exact Below.alloc (Below.refl _ _) (Nat.le_refl _) _
  have HB0 := Lib.hid hb0
  have HT := Lib.hid (show TAt W w.heap.size 0 x by rw [hW]; refine ⟨?_, ?_, ?_, ?_⟩ <;> simp [go_sem])
  have hn1 : w.heap.size < W.heap.size := by rw [hW]; simp
  have HF := Lib.hid (show ∀ w', Below W.heap.size W w' → w'.cell? ⟨S, 0, none⟩ = some (.slice none 0 0) from fun w' hb => ((HMO.out.below hb0).below hb).c)
  rw [← hW]
  clear hW hb0 s0 sf
  go_loopg [6] 0 (fun gk i wr => gk = 0 ∧ i = .int .i64 0 ∧ Below W.heap.size W wr)
  case atStart => exact ⟨rfl, rfl, Below.refl _ _⟩
  case round =>
    obtain ⟨rfl, rfl, hb⟩ := hrel
    have Hb := Lib.hid hb
    clear hb
    have HFr := Lib.hid (show ∀ w', Below wr.heap.size wr w' → w'.cell? ⟨S, 0, none⟩ = some (.slice none 0 0) from fun w' hb => HF.out w' (Hb.out.trans (hb.mono Hb.out.size)))
    go_upto_region 2 with fail
    refine wp_region_below (by kernel_rfl) (by kernel_rfl) ?_
    (with_reducible refine wpQuiet_yes ?_ ?_; (focus (kernel_rfl)); intro K hK; go_simp; refine ⟨_, fun _ _ => rfl, ?_⟩; with_reducible refine hK _ ?_; clear hK K)
    (with_reducible refine wpQuiet_yes ?_ ?_; (focus (kernel_rfl)); intro K hK; go_simp; refine ⟨_, fun _ _ => rfl, ?_⟩; with_reducible refine hK _ ?_; clear hK K)
    (with_reducible refine wpQuiet_yes ?_ ?_; (focus (kernel_rfl)); intro K hK; go_simp; refine ⟨_, fun _ _ => rfl, ?_⟩; with_reducible refine hK _ ?_; clear hK K)
    (with_reducible refine wpQuiet_yes ?_ ?_; (focus (kernel_rfl)); intro K hK; go_simp; refine ⟨_, fun _ _ => rfl, ?_⟩; with_reducible refine hK _ ?_; clear hK K)
    (with_reducible refine wpQuiet_yes ?_ ?_; (focus (kernel_rfl)); intro K hK; go_simp; refine ⟨(.slice none 0 0), ?_, ?_⟩; rotate_left; with_reducible refine hK _ ?_; clear hK K; rotate_left)
    · intro w' hw
      simp only [HFr.out w' hw, go_sem, Result.andThen, and_self]
    (with_reducible refine wpQuiet_yes ?_ ?_; (focus (kernel_rfl)); intro K hK; go_simp; refine ⟨_, fun _ _ => rfl, ?_⟩; with_reducible refine hK _ ?_; clear hK K)
    (with_reducible refine wpQuiet_yes ?_ ?_; (focus (kernel_rfl)); intro K hK; go_simp; refine ⟨(.bool false), ?_, ?_⟩; rotate_left; with_reducible refine hK _ ?_; clear hK K; rotate_left)
    · intro w' hw
      simp
    (with_reducible refine wpQuiet_yes ?_ ?_; (focus (kernel_rfl)); intro K hK; go_simp; refine ⟨_, fun _ _ => rfl, ?_⟩; with_reducible refine hK _ ?_; clear hK K)
    iterate 11 (with_reducible refine wpQuiet_no ?_ ?_; (focus (kernel_rfl)); intro K hK; go_simp; with_reducible refine hK _ ?_; clear hK K)
    (with_reducible refine wpQuiet_yes ?_ ?_; (focus (kernel_rfl)); intro K hK; go_simp; refine ⟨_, fun _ _ => rfl, ?_⟩; with_reducible refine hK _ ?_; clear hK K)
    refine wpQuiet_nil fun w2 hb2 => ?_
    have HB2 := Lib.hid (Hb.out.trans (hb2.mono Hb.out.size))
    clear hb2 HFr Hb
    simp only [Exit.then]
    obtain ⟨t0, t1, t2, t3⟩ := HT.out.below HB2.out hn1
    simp only [Nat.zero_add] at t0 t1 t2 t3
    by_cases hx0 : x.t = 0
    · have HX0 := Lib.hid hx0
      have HLO := Lib.hid (HB0.out.trans (HB2.out.mono HB0.out.size))
      go_wp2_with fail
      refine bodyPost_ret (v := .tuple #[]) (by simp [results, Try.results96, go_sem]) rfl ⟨rfl, _, HMO.out.below HLO.out, by rw [addT_zero0 HX0.out]; exact Row.nil _ _, by simp [Value.ownBlock], Kept.of_below HLO.out, .inl rfl⟩
    · have HX0 := Lib.hid hx0
      have hxe : (x.t == 0) = false := by simp [hx0]
      clear hx0
      have HFr := Lib.hid (show ∀ w', Below w2.heap.size w2 w' → w'.cell? ⟨S, 0, none⟩ = some (.slice none 0 0) from fun w' hb => HF.out w' (HB2.out.trans (hb.mono HB2.out.size)))
      go_upto_region 7 with fail
      clear t0 t1 t2 t3
      refine wp_region_below (by kernel_rfl) (by kernel_rfl) ?_
      (with_reducible refine wpQuiet_yes ?_ ?_; (focus (kernel_rfl)); intro K hK; go_simp; refine ⟨_, fun _ _ => rfl, ?_⟩; with_reducible refine hK _ ?_; clear hK K)
      (with_reducible refine wpQuiet_yes ?_ ?_; (focus (kernel_rfl)); intro K hK; go_simp; refine ⟨_, fun _ _ => rfl, ?_⟩; with_reducible refine hK _ ?_; clear hK K)
      (with_reducible refine wpQuiet_yes ?_ ?_; (focus (kernel_rfl)); intro K hK; go_simp; refine ⟨_, fun _ _ => rfl, ?_⟩; with_reducible refine hK _ ?_; clear hK K)
      (with_reducible refine wpQuiet_yes ?_ ?_; (focus (kernel_rfl)); intro K hK; go_simp; refine ⟨_, fun _ _ => rfl, ?_⟩; with_reducible refine hK _ ?_; clear hK K)
      (with_reducible refine wpQuiet_yes ?_ ?_; (focus (kernel_rfl)); intro K hK; go_simp; refine ⟨(.slice none 0 0), ?_, ?_⟩; rotate_left; with_reducible refine hK _ ?_; clear hK K; rotate_left)
      · intro w' hw
        simp only [HFr.out w' hw, go_sem, Result.andThen, and_self]
      (with_reducible refine wpQuiet_yes ?_ ?_; (focus (kernel_rfl)); intro K hK; go_simp; refine ⟨_, fun _ _ => rfl, ?_⟩; with_reducible refine hK _ ?_; clear hK K)
      (with_reducible refine wpQuiet_yes ?_ ?_; (focus (kernel_rfl)); intro K hK; go_simp; refine ⟨(.bool false), ?_, ?_⟩; rotate_left; with_reducible refine hK _ ?_; clear hK K; rotate_left)
      · intro w' hw
        simp
      (with_reducible refine wpQuiet_yes ?_ ?_; (focus (kernel_rfl)); intro K hK; go_simp; refine ⟨_, fun _ _ => rfl, ?_⟩; with_reducible refine hK _ ?_; clear hK K)
      iterate 11 (with_reducible refine wpQuiet_no ?_ ?_; (focus (kernel_rfl)); intro K hK; go_simp; with_reducible refine hK _ ?_; clear hK K)
      (with_reducible refine wpQuiet_yes ?_ ?_; (focus (kernel_rfl)); intro K hK; go_simp; refine ⟨_, fun _ _ => rfl, ?_⟩; with_reducible refine hK _ ?_; clear hK K)
      (with_reducible refine wpQuiet_yes ?_ ?_; (focus (kernel_rfl)); intro K hK; go_simp; refine ⟨_, fun _ _ => rfl, ?_⟩; with_reducible refine hK _ ?_; clear hK K)
      refine wpQuiet_nil fun w3 hb3 => ?_
      have hB3 : Below w.heap.size w w3 := HB0.out.trans ((HB2.out.trans (hb3.mono HB2.out.size)).mono HB0.out.size)
      have hT3 : TAt w3 w.heap.size 0 x := (HT.out.below HB2.out hn1).below hb3 (Nat.lt_of_lt_of_le hn1 HB2.out.size)
      have A0 : ASt w B S w.heap.size (.slice none 0 0) (.slice none 0 0) (.slice none 0 0) [] x w3 :=
        ⟨HMO.out.below hB3, Row.nil _ _, by simp [Value.ownBlock], Kept.of_below hB3, .inl rfl, hT3, by have := hb3.size; have := HB2.out.size; omega, Nat.le_refl _, ssz, hB, by simp [Value.ownBlock]⟩
      have hL1 : Below w3.heap.size w3 (w3.alloc (.cells #[] 91)) := Below.alloc (Below.refl _ _) (Nat.le_refl _) _
      have HA1 := Lib.hid (A0.on hL1)
      have HR1 := Lib.hid (Row.lit0 w3 w3.heap.size (Nat.le_refl _))
      obtain ⟨s0, sf, _⟩ := HA1.out.mo
      clear hB3 hT3 A0 HFr HF HB2 HB0 HT hb3
      simp only [Exit.then]
      go_wp2_with (at_builtin; refine wpList_append_none rfl _ _ 40 91 i0 rfl Try.underlying40 hi ⟨w3.heap.size, 0, none⟩ rfl rfl ?_)
      obtain ⟨W4, hW4⟩ : ∃ W, W = w3.alloc (.cells #[] 91) := ⟨_, rfl⟩
      have hsz4 : W4.heap.size = w3.heap.size + 1 := by rw [hW4]; simp
      obtain ⟨g8, hg8⟩ : ∃ g, g = w3.heap.size := ⟨_, rfl⟩
      rw [← hg8] at HR1 hsz4 ⊢
      rw [← hW4] at HR1 HA1 s0 sf ⊢
      have hg84 : g8 < W4.heap.size := by omega
      clear hW4 hL1 hg8 hsz4
      obtain ⟨t0, t1, t2, t3⟩ := HA1.out.bx
      simp only [Nat.zero_add] at t0 t1 t2 t3
      have hBW : B ≤ W4.heap.size := by have := HA1.out.hB; have := HA1.out.hn; have := HA1.out.n1; omega
      have hn3 := HA1.out.n1
      have b12 : ∀ o, Below W4.heap.size W4 (W4.alloc o).drew := fun o => Below.drew (Below.alloc (Below.refl _ _) (Nat.le_refl _) _)
      have HSK := Lib.hid (show ∀ o, ((W4.alloc o).drew.cell? ⟨S, 0, none⟩ = some (.slice none 0 0) ∧ (W4.alloc o).drew.cell? ⟨w.heap.size, 0, none⟩ = some (.int .i64 x.a) ∧ (W4.alloc o).drew.cell? ⟨w.heap.size, 1, none⟩ = some (.int .i64 x.b) ∧ (W4.alloc o).drew.cell? ⟨w.heap.size, 2, none⟩ = some (.int .i64 x.c) ∧ (W4.alloc o).drew.cell? ⟨w.heap.size, 3, none⟩ = some (.int .i64 x.t)) from fun o => by
        obtain ⟨q0, q1, q2, q3⟩ := (HA1.out.on (b12 o)).bx
        exact ⟨(HA1.out.on (b12 o)).mo.c, q0, q1, q2, q3⟩)
      have HA12 := Lib.hid (HA1.out.on (b12 (Obj.cells #[.int .i64 x.a, .int .i64 x.b, .int .i64 x.c, .int .i64 x.t] 91)))
      have hB12 : B ≤ ((W4.alloc (Obj.cells #[.int .i64 x.a, .int .i64 x.b, .int .i64 x.c, .int .i64 x.t] 91)).drew).heap.size := Nat.le_trans hBW (b12 _).size
      clear b12 HR1 HA1
      go_wp2_with fail
      refine wp_region_seq [(0, true), (1, true), (2, true), (3, true), (4, true), (5, true), (6, true), (7, true), (10, true), (8, false), (9, false), (11, false), (12, true), (13, true)] (fun w' => w'.cell? ⟨S, 0, none⟩ = some (.slice none 0 0) ∧ w'.cell? ⟨w.heap.size, 0, none⟩ = some (.int .i64 x.a) ∧ w'.cell? ⟨w.heap.size, 1, none⟩ = some (.int .i64 x.b) ∧ w'.cell? ⟨w.heap.size, 2, none⟩ = some (.int .i64 x.c) ∧ w'.cell? ⟨w.heap.size, 3, none⟩ = some (.int .i64 x.t)) (by kernel_rfl) (by kernel_rfl) rfl (by intro c a d v w h; cases d <;> exact h) ⟨s0, t0, t1, t2, t3⟩ ?_
      iterate 9 (refine wpSeq_take (v := ?_) (List.getElem?_toArray.trans rfl) ?_ ?_; rotate_left; (intro w' hSw; (try dsimp only at hSw); go_simp; (try with_reducible rfl)); (try simp only [Act.put, List.setIfInBounds_toArray, List.set_cons_zero, List.set_cons_succ]))
      refine wpSeq_do (List.getElem?_toArray.trans rfl) (fun K hK => ?_)
      go_simp
      refine hK _ _ (HSK.out _) ?_
      clear hK K
      refine wpSeq_do (List.getElem?_toArray.trans rfl) (fun K hK => ?_)
      refine wp_append_lies _ _ _ 40 rfl B 91 i0 (.agg #[.int .i64 0, .int .i64 0, .int .i64 0, .int .i64 0]) 4 32 Try.underlying40 hi hz0 hz1 hz2 rfl (by decide) (.slice none 0 0) 0 [] (by simp [Act.eval]) HA12.out.row _ 1 1 [.int .i64 x.a, .int .i64 x.b, .int .i64 x.c, .int .i64 x.t] (by simp [Act.eval]; rfl) rfl (by intro j u hj; match j, hj with | 0, hj => (simp at hj; subst hj; simp [Addr.add, go_sem]) | 1, hj => (simp at hj; subst hj; simp [Addr.add, go_sem]) | 2, hj => (simp at hj; subst hj; simp [Addr.add, go_sem]) | 3, hj => (simp at hj; subst hj; simp [Addr.add, go_sem])) (by intro u hu; simp at hu; rcases hu with rfl | rfl | rfl | rfl <;> rfl) (by omega) (by unfold maxLen; omega) (by omega) hB12 _ rfl ?_
      intro gv cv w5 hown hgrow hat _
      have A13 := (HA12.out.app (v' := .slice (some ⟨gv, 0, none⟩) (0 + 1) cv) (R' := [x]) (by unfold Row; rw [flat_one]; exact hown) hgrow (by
        rcases hat with e | e
        · exact .inl e.symm
        · exact .inr (by rw [e]; rfl)))
      obtain ⟨q0, q1, q2, q3⟩ := A13.bx
      refine hK _ _ ⟨A13.mo.c, q0, q1, q2, q3⟩ ?_
      clear hK K
      simp only [Act.put, List.setIfInBounds_toArray, List.set_cons_zero, List.set_cons_succ]
      have hB5 : B ≤ w5.heap.size := Nat.le_trans hB12 hgrow.size
      refine wpSeq_do (List.getElem?_toArray.trans rfl) (fun K hK => ?_)
      refine wp_app_at _ _ 40 rfl B 91 i0 (.agg #[.int .i64 0, .int .i64 0, .int .i64 0, .int .i64 0]) 4 32 Try.underlying40 hi hz0 hz1 hz2 rfl (by decide) (.slice (some ⟨gv, 0, none⟩) (0 + 1) cv) 1 (flat [x]) (by simp [Act.eval]) A13.row ⟨g8, 0, none⟩ 0 0 [] (by simp [Act.eval]) rfl (by intro j u hj; simp at hj) (by intro u hu; cases hu) (by unfold maxLen; omega) (by omega) (by omega) ?_
      intro v9 w9 hown9 hgrow9 hnil9 hat9
      have A9 := (A13.app (R' := [x]) (by unfold Row; simpa using hown9) hgrow9 hat9)
      obtain ⟨g9, n9, c9, rfl⟩ : ∃ g n c, v9 = .slice (some ⟨g, 0, none⟩) n c := by
        rcases A9.row.shape with ⟨h1, _⟩ | ⟨g', c', h1, _⟩
        · exact absurd (hnil9.1 h1).1 (by simp)
        · exact ⟨g', _, c', h1⟩
      obtain ⟨q0, q1, q2, q3⟩ := A9.bx
      refine hK _ _ ⟨A9.mo.c, q0, q1, q2, q3⟩ ?_
      clear hK K
      iterate 2 (refine wpSeq_take (v := ?_) (List.getElem?_toArray.trans rfl) ?_ ?_; rotate_left; (intro w' hSw; (try dsimp only at hSw); go_simp; (try with_reducible rfl)); (try simp only [Act.put, List.setIfInBounds_toArray, List.set_cons_zero, List.set_cons_succ]))
      refine wpSeq_nil ?_
      simp only [Exit.then]
      have HA9 := Lib.hid A9.store
      clear s0 sf t0 t1 t2 t3
      obtain ⟨s1, sf1, _⟩ := A9.mo
      clear hown hgrow hat A9 A13 hnil9 hown9 hgrow9 hat9
      go_wp2_with fail
      refine bodyPost_ret (v := .tuple #[]) (by simp [results, Try.results96, go_sem]) rfl ?_
      rw [addT_nil HX0.out]; exact HA9.out.done
/-- the model's add, whatever its list is -/
theorem sAdd (B S : Nat) (p : Int) (L : List Trm) (x : Trm) (v : Value) (w : World) (hS : ModW w S v) (hR : Row w B v L) (hl : L.length ≤ 4000) (hs : Srt L) (hv : v.ownBlock ≠ some S) (hp : isP p = true) (he : Els p L) (hx : 0 ≤ x.t ∧ x.t < p) (hB : B ≤ w.heap.size) :
    Calls Try.prog 96 #[.pointer (some ⟨S, 0, none⟩), .int .i64 p, .agg #[.int .i64 x.a, .int .i64 x.b, .int .i64 x.c, .int .i64 x.t]] w (AddTo B S v (addT p x L) w) := by
  rcases hR.shape with ⟨rfl, rfl⟩ | ⟨g, cap, rfl, _⟩
  · exact sAddNil B S p x w hS hB
  · exact sAddSome B S g cap p L x w hS hR hl hs (fun e => hv (by rw [e]; rfl)) hp he hx hB
end Go.Proofs.Ytfmpcniehgipfaa
namespace Go.Proofs.Ytfmpcniehgipfaa
open Go.RowKit
/-- what is appended may be of another named type -/
theorem run_append_tx {P : Program} (w : World) (t tx ty e : TypeId) (i : TypeInfo) (ht : P.underlying t = some (.slice e)) (hx : P.underlying tx = some (.slice e)) (hi : P.info? e = some i) (b : Option Addr) (n c : Nat) (x : Value) :
    (Builtin.append_ #[t, tx] ty #[.slice b n c, x]).run P w = (Builtin.append_ #[t, t] ty #[.slice b n c, x]).run P w := by
  simp [Builtin.append_, run_underlying ht, run_underlying hx, sizeOf, typeInfo, hi]
/-- a copy of a row, appended to a literal without terms -/
theorem app_copy (t tx ty : TypeId) (ht : Try.prog.underlying t = some (.slice 91)) (hx : Try.prog.underlying tx = some (.slice 91)) (W : World) (B : Nat) (v : Value) (L : List Trm) (hR : Row W B v L) (hl : L.length ≤ 4000) :
    ∃ v' w', (Builtin.append_ #[t, tx] ty #[.slice (some ⟨W.heap.size, 0, none⟩) 0 0, v]).run Try.prog (W.alloc (.cells #[] 91)) = .ok v' w' ∧ Row w' W.heap.size v' L ∧ Below W.heap.size W w' := by
  obtain ⟨i0, hi, hz0, hz1, hz2⟩ := info_parts infoT
  rw [run_append_tx _ t tx ty _ i0 ht hx hi]
  have hb : Below W.heap.size W (W.alloc (.cells #[] 91)) := Below.alloc (Below.refl _ _) (Nat.le_refl _) _
  have hL0 := Row.lit0 W W.heap.size (Nat.le_refl _)
  rcases hR.shape with ⟨rfl, rfl⟩ | ⟨g, cap, rfl, _⟩
  · exact ⟨_, _, run_append_none _ t ty _ i0 ht hi _, hL0, hb⟩
  · obtain ⟨v', w', hr, hown, hgrow, _⟩ := run_append_own_at (P := Try.prog) (W.alloc (.cells #[] 91)) W.heap.size t ty 91 i0 (.agg #[.int .i64 0, .int .i64 0, .int .i64 0, .int .i64 0]) 4 32 ht hi hz0 hz1 hz2 rfl (by decide) _ 0 [] hL0 ⟨g, 0, none⟩ L.length cap (flat L) (flat_len L) (World.ownsRow.cells (hR.below hb) rfl) (flat_cell L) (by unfold maxLen; omega) (by omega) (by simp)
    refine ⟨v', w', hr, ?_, hb.trans (hL0.low (by simp) hgrow)⟩
    unfold Row
    simpa using hown
theorem sVal (B : Nat) (p : Int) (hp : isP p = true) (L : List Trm) (v : Value) (w : World) (hR : Row w B v L) (hl : L.length ≤ 4000) :
    Calls Try.prog 129 #[.int .i64 p, v] w fun e w' => e = .returned (.bool (validB p L)) ∧ Below w.heap.size w w' := by
  rcases hR.shape with ⟨rfl, rfl⟩ | ⟨g, cap, rfl, _, hg, _⟩
  · exact (sVal_nil p none 0 w).mono fun e w' ⟨he, hw⟩ => ⟨by rw [he]; simp [validB], by rw [← hw]; exact Below.refl _ _⟩
  · exact sVal_some p hp g 0 cap L w (by omega) hg (fun j hj => by rw [Nat.zero_add]; exact hR.tat rfl hj)
set_option maxRecDepth 100000 in
set_option maxHeartbeats 4000000 in
theorem sTold (B : Nat) (p : Int) (hp : isP p = true) (L : List Trm) (v : Value) (w : World) (hR : Row w B v L) (hl : L.length ≤ 4000) :
    Calls Try.prog 97 #[.int .i64 p, .agg #[v]] w (GivesPB (if validB p L = true then L else []) (validB p L) w) := by
  have HRO := Lib.hid hR
  have HV := Lib.hid (fun (w' : World) (hb : Below w.heap.size w w') => sVal B p hp L v w' (hR.below hb) hl)
  obtain ⟨r, hr⟩ : ∃ r, r = validB p L := ⟨_, rfl⟩
  rw [← hr] at HV ⊢
  clear hr hR
  cases r
  · go_enter Try.func97, Try.ntmps97
    go_upto_region 1 with fail
    obtain ⟨W, hW⟩ : ∃ W, W = w.alloc (Obj.cells #[v] 88) := ⟨_, rfl⟩
    have hb0 : Below w.heap.size w W := by rw [hW]; exact Below.alloc (Below.refl _ _) (Nat.le_refl _) _
    have s0 : W.cell? ⟨w.heap.size, 0, none⟩ = some v := by rw [hW]; simp [go_sem]
    have HB0 := Lib.hid hb0
    rw [← hW]
    clear hW hb0
    go_wp2_with (go_at_call 129; refine (HV.out _ HB0.out).mono ?_; rintro e w2 ⟨rfl, hb2⟩)
    have hb : Below w.heap.size w w2 := HB0.out.trans (hb2.mono HB0.out.size)
    refine bodyPost_ret (v := .tuple #[.slice (some ⟨w2.heap.size, 0, none⟩) 0 0, .bool false]) (by simp [results, Try.results97, go_sem]) rfl ⟨_, rfl, (Row.lit0 w2 w.heap.size hb.size).own (by simp), Below.alloc hb hb.size _⟩
  · go_enter Try.func97, Try.ntmps97
    go_upto_region 1 with fail
    obtain ⟨W, hW⟩ : ∃ W, W = w.alloc (Obj.cells #[v] 88) := ⟨_, rfl⟩
    have hb0 : Below w.heap.size w W := by rw [hW]; exact Below.alloc (Below.refl _ _) (Nat.le_refl _) _
    have s0 : W.cell? ⟨w.heap.size, 0, none⟩ = some v := by rw [hW]; simp [go_sem]
    have hn : w.heap.size < W.heap.size := by rw [hW]; simp
    have HB0 := Lib.hid hb0
    rw [← hW]
    clear hW hb0
    go_upto_region 3 with (go_at_call 129; refine (HV.out _ HB0.out).mono ?_; rintro e w2 ⟨rfl, hb2⟩)
    have hb : Below w.heap.size w w2 := HB0.out.trans (hb2.mono HB0.out.size)
    have s2 : (w2.alloc (Obj.cells #[] 91)).cell? ⟨w.heap.size, 0, none⟩ = some v := by
      rw [World.cell?_alloc_past _ _ _ (show w.heap.size < w2.heap.size from Nat.lt_of_lt_of_le hn hb2.size), hb2.cell (p := ⟨w.heap.size, 0, none⟩) hn]; exact s0
    obtain ⟨v', w', hr, hrow, hbw⟩ := app_copy 41 40 41 Try.underlying41 Try.underlying40 w2 B v L (HRO.out.below hb) hl
    go_wp2_with (at_builtin; refine Lib.wpList_append_run _ rfl _ _ 41 40 rfl _ _ rfl rfl _ _ hr ?_)
    refine bodyPost_ret (v := .tuple #[v', .bool true]) (by simp [results, Try.results97, go_sem]) rfl ⟨_, rfl, ?_, hb.trans (hbw.mono hb.size)⟩
    have ho := (row_base hrow hb.size).own (by omega)
    simpa using ho
end Go.Proofs.Ytfmpcniehgipfaa
namespace Go.Proofs.Ytfmpcniehgipfaa
open Go.RowKit
/-- no term appended -/
theorem run_append_zero {P : Program} (w : World) (t ty e : TypeId) (i : TypeInfo) (ht : P.underlying t = some (.slice e)) (hi : P.info? e = some i) (b : Addr) (a : Option Addr) (c : Nat) :
    (Builtin.append_ #[t, t] ty #[.slice (some b) 0 0, .slice a 0 c]).run P w = .ok (.slice (some b) 0 0) w := by
  cases a <;> simp [Builtin.append_, run_underlying ht, sizeOf, typeInfo, hi, Builtin.lenOf, Builtin.firstCells, storeCells, loadCells, loadCellsFrom]
/-- a copy of a polynomial, appended to a literal without terms -/
theorem app_copyT (t tx ty : TypeId) (ht : Try.prog.underlying t = some (.slice 91)) (hx : Try.prog.underlying tx = some (.slice 91)) (W : World) (v : Value) (L : List Trm) (hT : Trms W v L) (hl : L.length ≤ 4000) :
    ∃ v' w', (Builtin.append_ #[t, tx] ty #[.slice (some ⟨W.heap.size, 0, none⟩) 0 0, v]).run Try.prog (W.alloc (.cells #[] 91)) = .ok v' w' ∧ Row w' W.heap.size v' L ∧ Below W.heap.size W w' := by
  obtain ⟨i0, hi, hz0, hz1, hz2⟩ := info_parts infoT
  rw [run_append_tx _ t tx ty _ i0 ht hx hi]
  have hb : Below W.heap.size W (W.alloc (.cells #[] 91)) := Below.alloc (Below.refl _ _) (Nat.le_refl _) _
  have hL0 := Row.lit0 W W.heap.size (Nat.le_refl _)
  obtain ⟨_, a, cap, rfl, rfl | ⟨g, off, rfl, hg, hc⟩⟩ := hT
  · exact ⟨_, _, run_append_zero _ t ty _ i0 ht hi _ a cap, hL0, hb⟩
  · obtain ⟨v', w', hr, hown, hgrow, _⟩ := run_append_own_at (P := Try.prog) (W.alloc (.cells #[] 91)) W.heap.size t ty 91 i0 (.agg #[.int .i64 0, .int .i64 0, .int .i64 0, .int .i64 0]) 4 32 ht hi hz0 hz1 hz2 rfl (by decide) _ 0 [] hL0 ⟨g, off, none⟩ L.length cap (flat L) (flat_len L) (flatT_read (fun j hj => (hc j hj).below hb hg)) (flat_cell L) (by unfold maxLen; omega) (by omega) (by simp)
    refine ⟨v', w', hr, ?_, hb.trans (hL0.low (by simp) hgrow)⟩
    unfold Row
    simpa using hown
theorem AddTo.low {B S : Nat} {v : Value} {L L' : List Trm} {w w' : World} {e : Ending} (h : AddTo B S v L' w e w') (hR : Row w B v L) (hS : B ≤ S) (hB : B ≤ w.heap.size) : Below B w w' := by
  obtain ⟨_, v', _, _, _, hk, _⟩ := h
  exact ⟨hk.os, hk.tape, hk.output, hk.size, fun k hk2 => hk.block k (by omega) (fun hn => by
    rcases hn with hn | hn
    · omega
    · have := (World.ownsRow.lt hR k hn).1; omega)⟩
theorem addAll_take {p : Int} {M L : List Trm} {k : Nat} (hk : k < M.length) : addT p (M.getD k default) (addAll p (M.take k) L) = addAll p (M.take (k + 1)) L := by
  rw [List.take_succ_eq_append_getElem hk, addAll_snoc]
  simp [List.getD_eq_getElem?_getD, hk]
theorem sum_facts {p : Int} {L M : List Trm} (hp : isP p = true) (hL : validB p L = true) (hM : validB p M = true) (k : Nat) : Srt (addAll p (M.take k) L) ∧ Els p (addAll p (M.take k) L) ∧ (addAll p (M.take k) L).length ≤ 120 := by
  have hb := isP_bd hp
  refine ⟨addAll_srt _ _ (validB_srt hL), addAll_els (by omega) _ _ (fun x hx => ?_) (validB_els hL), ?_⟩
  · have := validB_els hM x (List.mem_of_mem_take hx)
    omega
  · have := addAll_len (p := p) (M.take k) L
    have h1 := validB_len hL
    have h2 := validB_len hM
    simp only [List.length_take] at this
    omega
end Go.Proofs.Ytfmpcniehgipfaa
namespace Go.Proofs.Ytfmpcniehgipfaa
open Go.RowKit
/-- a slice of terms and what it holds -/
abbrev VT := Value × List Trm
def vt0 : VT := (.slice none 0 0, [])
def okB (p : Int) (z : VT) : Bool := isP p && validB p z.2
theorem vall_snoc (p : Int) (zs : List VT) (k : Nat) (h : k < zs.length) : (zs.take (k + 1)).all (okB p) = ((zs.take k).all (okB p) && okB p (zs.getD k vt0)) := by
  rw [List.take_succ_eq_append_getElem h, List.all_append]; simp [h]
theorem vall_no (p : Int) (zs : List VT) (k : Nat) (h : k < zs.length) (hn : okB p (zs.getD k vt0) = false) : zs.all (okB p) = false := by
  rw [List.all_eq_false]; exact ⟨zs[k], List.getElem_mem h, by simpa [h] using hn⟩
end Go.Proofs.Ytfmpcniehgipfaa
namespace Go.Proofs.Ytfmpcniehgipfaa
open Go.RowKit
theorem ownTrms_mono {w : World} {B B' : Nat} {v : Value} {L : List Trm} (h : OwnTrms w B v L) (hb : B' ≤ B) : OwnTrms w B' v L := by
  obtain ⟨h1, a, cap, hv, h2⟩ := h
  refine ⟨h1, a, cap, hv, ?_⟩
  rcases h2 with h2 | ⟨g, off, ha, h3, h4⟩
  · exact .inl h2
  · exact .inr ⟨g, off, ha, Nat.le_trans hb h3, h4⟩
end Go.Proofs.Ytfmpcniehgipfaa
namespace Go.Proofs.Ytfmpcniehgipfaa
open Go.RowKit
set_option maxRecDepth 100000 in
set_option maxHeartbeats 4000000 in
theorem iBoth (p : Int) (b off : Nat) (zs : List VT) (w : World) (hl : zs.length ≤ 1000000) (hb : b < w.heap.size)
    (hc : ∀ k, k < zs.length → w.cell? ⟨b, off + k, none⟩ = some (zs.getD k vt0).1) (hT : ∀ k, k < zs.length → Trms w (zs.getD k vt0).1 (zs.getD k vt0).2) :
    Calls Try.prog 103 #[.int .i64 p, .slice (some ⟨b, off, none⟩) zs.length zs.length] w fun e w' => e = .returned (.bool (zs.all (okB p))) ∧ Below w.heap.size w w' := by
  have hC := Lib.hid hc
  have HT := Lib.hid hT
  clear hc hT
  go_enter Try.func103, Try.ntmps103
  go_wp2_with fail
  go_loopw [9] (fun i wr => ∃ k : Nat, k ≤ zs.length ∧ i = .int .i64 k ∧ (zs.take k).all (okB p) = true ∧ Below w.heap.size w wr) (fun i _ => zs.length - (intOf i).toNat)
  case atStart => exact ⟨0, Nat.zero_le _, rfl, by simp, Below.refl _ _⟩
  case round =>
    obtain ⟨k, hk, rfl, hall, hbw⟩ := hrel
    have Hall := Lib.hid hall
    have Hb := Lib.hid hbw
    clear hall
    by_cases hlt : k < zs.length
    · have hltp : (k : Int) < (zs.length : Int) := by omega
      have hk0 : (0 : Int) ≤ (k : Int) := by omega
      have hck : wr.cell? ⟨b, off + k, none⟩ = some (zs.getD k vt0).1 := by rw [hbw.cell (p := ⟨b, off + k, none⟩) hb]; exact hC.out k hlt
      have hz1 := vall_no p zs k hlt
      have hz2 := vall_snoc p zs k hlt
      have hTk := (HT.out k hlt).below hbw
      clear hbw
      generalize zs.getD k vt0 = z at hck hz1 hz2 hTk
      obtain ⟨zv, zl⟩ := z
      dsimp only at hck hTk
      have hV := iPolyValid p zv zl wr hTk
      obtain ⟨h0, a, cap, rfl, h2⟩ := hTk
      have HV := Lib.hid hV
      clear hV h0 h2
      cases hE : okB p (.slice a zl.length cap, zl)
      · have hz := Lib.hid (hz1 hE)
        unfold okB at hE
        dsimp only at hE
        rw [hE] at HV
        clear hz1 hz2 hE
        go_wp2_with (go_at_call 134; refine HV.out.mono ?_; rintro e w2 ⟨rfl, hb2⟩)
        go_ret
        exact ⟨ret_bool hz.out.symm, Hb.out.trans (hb2.mono Hb.out.size)⟩
      · have hz := Lib.hid hz2
        have hE' := Lib.hid hE
        unfold okB at hE
        dsimp only at hE
        rw [hE] at HV
        clear hz1 hz2 hE
        go_wp2_with (go_at_call 134; refine HV.out.mono ?_; rintro e w2 ⟨rfl, hb2⟩)
        have H2 := Lib.hid (Hb.out.trans (hb2.mono Hb.out.size))
        clear hb2
        go_roundw
        case rel => exact ⟨k + 1, by omega, by go_num, by rw [hz.out, Hall.out, hE'.out]; rfl, H2.out⟩
        case measure => simp [intOf]; omega
    · have hkl : ¬ (k : Int) < (zs.length : Int) := by omega
      go_wp2_with fail
      go_ret
      exact ⟨ret_bool (by rw [← Hall.out, List.take_of_length_le (by omega)]), Hb.out⟩
theorem iBothAt (p : Int) (fv gv : Value) (L M : List Trm) (w : World) (hL : Trms w fv L) (hM : Trms w gv M) (r : Bool) (hr : (okB p (fv, L) && okB p (gv, M)) = r) :
    Calls Try.prog 103 #[.int .i64 p, .slice (some ⟨w.heap.size, 0, none⟩) 2 2] (w.alloc (Obj.cells #[fv, gv] 41)) fun e w' => e = .returned (.bool r) ∧ Below w.heap.size w w' := by
  have hb : Below w.heap.size w (w.alloc (Obj.cells #[fv, gv] 41)) := Below.alloc (Below.refl _ _) (Nat.le_refl _) _
  have h := iBoth p w.heap.size 0 [(fv, L), (gv, M)] (w.alloc (Obj.cells #[fv, gv] 41)) (by simp) (by simp)
    (fun k hk => by
      match k, hk with
      | 0, _ => simp
      | 1, _ => simp
      | k + 2, hk => exact absurd hk (by simp))
    (fun k hk => by
      match k, hk with
      | 0, _ => exact hL.below hb
      | 1, _ => exact hM.below hb
      | k + 2, hk => exact absurd hk (by simp))
  refine h.mono fun e w' h => ⟨?_, hb.trans (h.2.mono hb.size)⟩
  rw [h.1, ← hr]
  simp
theorem addAll_self {p : Int} {L : List Trm} (hs : Srt L) (he : Els p L) : ∀ k, k ≤ L.length → addAll p (L.take k) [] = L.take k
  | 0, _ => by simp [addAll]
  | k + 1, h => by
    have hkl : k < L.length := by omega
    rw [List.take_succ_eq_append_getElem hkl, addAll_snoc, addAll_self hs he k (by omega), addT_end ?_ ?_]
    · intro y hy
      obtain ⟨j, hj, rfl⟩ := List.getElem_of_mem hy
      simp only [List.length_take] at hj
      rw [List.getElem_take]
      exact List.pairwise_iff_getElem.1 hs j k (by omega) hkl (by omega)
    · have := he _ (List.getElem_mem hkl)
      omega
theorem put_facts {p : Int} {L M : List Trm} (hp : isP p = true) (hL : validB p L = true) (hM : validB p M = true) (k : Nat) : Srt (addAll p (M.take k) L) ∧ Els p (addAll p (M.take k) L) ∧ (addAll p (M.take k) L).length ≤ 120 := sum_facts hp hL hM k
end Go.Proofs.Ytfmpcniehgipfaa
namespace Go.Proofs.Ytfmpcniehgipfaa
open Go.RowKit
def addOk (p : Int) (L M : List Trm) : Bool := ((isP p && validB p L) && (isP p && validB p M)) && validB p (addAll p M L)
def sumV (p : Int) (L M : List Trm) : List Trm := if addOk p L M = true then addAll p M L else []
theorem addOk_no {p : Int} {L M : List Trm} (h : ((isP p && validB p L) && (isP p && validB p M)) = false) : addOk p L M = false ∧ sumV p L M = [] := by
  have e : addOk p L M = false := by unfold addOk; rw [h]; rfl
  exact ⟨e, by unfold sumV; rw [e]; rfl⟩
theorem addOk_yes {p : Int} {L M : List Trm} (h : ((isP p && validB p L) && (isP p && validB p M)) = true) : addOk p L M = validB p (addAll p M L) ∧ sumV p L M = (if validB p (addAll p M L) = true then addAll p M L else []) := by
  have e : addOk p L M = validB p (addAll p M L) := by unfold addOk; rw [h, Bool.true_and]
  exact ⟨e, by unfold sumV; rw [e]⟩
end Go.Proofs.Ytfmpcniehgipfaa
namespace Go.Proofs.Ytfmpcniehgipfaa
open Go.RowKit
/-- a term whose coefficient is made an element -/
def mkT (p : Int) (x : Trm) : Trm := ⟨x.a, x.b, x.c, x.t % p⟩
/-- the sum of the first k terms of a list -/
def mkK (p : Int) (L : List Trm) (k : Nat) : List Trm := addAll p ((L.take k).map (mkT p)) []
def pwB (x : Trm) : Bool := powsB x.a x.b x.c
theorem mkK_zero (p : Int) (L : List Trm) : mkK p L 0 = [] := by simp [mkK, addAll]
theorem mkK_next {p : Int} {L : List Trm} {k : Nat} (hk : k < L.length) : addT p (mkT p (L.getD k default)) (mkK p L k) = mkK p L (k + 1) := by
  unfold mkK
  rw [List.take_succ_eq_append_getElem hk, List.map_append, List.map_singleton, addAll_snoc]
  simp [List.getD_eq_getElem?_getD, hk]
theorem mkK_facts {p : Int} {L : List Trm} (hp : isP p = true) {k : Nat} (hk : k ≤ L.length) (hL : L.length ≤ 60) : Srt (mkK p L k) ∧ Els p (mkK p L k) ∧ (mkK p L k).length ≤ 60 := by
  have hb := isP_bd hp
  refine ⟨addAll_srt _ _ List.Pairwise.nil, addAll_els (by omega) _ _ (fun x hx => ?_) (fun y hy => by cases hy), ?_⟩
  · obtain ⟨z, _, rfl⟩ := List.mem_map.1 hx
    exact emod_bd hb.1
  · have := addAll_len (p := p) ((L.take k).map (mkT p)) []
    rw [List.length_map, List.length_take, List.length_nil] at this
    unfold mkK
    omega
theorem pw_snoc {L : List Trm} {k : Nat} (h : k < L.length) : (L.take (k + 1)).all pwB = ((L.take k).all pwB && pwB (L.getD k default)) := by
  rw [List.take_succ_eq_append_getElem h, List.all_append]
  simp [List.getD_eq_getElem?_getD, h]
theorem pw_no {L : List Trm} {k : Nat} (h : k < L.length) (hn : pwB (L.getD k default) = false) : L.all pwB = false := by
  rw [List.getD_eq_getElem?_getD, List.getElem?_eq_getElem h] at hn
  exact List.all_eq_false.2 ⟨_, List.getElem_mem h, by simpa using hn⟩
def makeOk (p : Int) (L : List Trm) : Bool := (isP p && decide (L.length ≤ 60)) && (L.all pwB && validB p (mkK p L L.length))
def makeV (p : Int) (L : List Trm) : List Trm := if makeOk p L = true then mkK p L L.length else []
set_option maxRecDepth 100000 in
set_option maxHeartbeats 4000000 in
theorem iMakePoly_no (p : Int) (a : Option Addr) (n cap : Nat) (w : World) (hr : (isP p && decide (n ≤ 60)) = false) :
    Calls Try.prog 99 #[.int .i64 p, .slice a n cap] w (GivesPB [] false w) := by
  cases hp : isP p
  · have HP := Lib.hid hp
    clear hr hp
    go_enter Try.func99, Try.ntmps99
    go_wp2_with (go_at_call 115; refine (iPV_no p _ HP.out).mono ?_; rintro e w' ⟨rfl, rfl⟩)
    refine bodyPost_ret (v := .tuple #[.slice none 0 0, .bool false]) (by simp [results, Try.results99, go_sem]) rfl ⟨_, rfl, (Row.nil w w.heap.size).own (by simp), Below.refl _ _⟩
  · have HP := Lib.hid hp
    have hn2 : (60 : Int) < (n : Int) := by rw [hp] at hr; simp at hr; omega
    clear hr hp
    go_enter Try.func99, Try.ntmps99
    go_wp2_with (go_at_call 115; refine (iPV_yes p _ HP.out).mono ?_; rintro e w' ⟨rfl, rfl⟩)
    refine bodyPost_ret (v := .tuple #[.slice none 0 0, .bool false]) (by simp [results, Try.results99, go_sem]) rfl ⟨_, rfl, (Row.nil w w.heap.size).own (by simp), Below.refl _ _⟩
set_option maxRecDepth 100000 in
set_option maxHeartbeats 8000000 in
theorem iMakePoly_yes (p : Int) (a : Option Addr) (cap : Nat) (L : List Trm) (w : World) (hp : isP p = true) (hl : L.length ≤ 60) (hL : Trms w (.slice a L.length cap) L) (R : List Trm) (b : Bool) (hR : R = makeV p L) (hb : b = makeOk p L) :
    Calls Try.prog 99 #[.int .i64 p, .slice a L.length cap] w (GivesPB R b w) := by
  have HP := Lib.hid hp
  have HL := Lib.hid hL
  have HRE := Lib.hid hR
  have HBE := Lib.hid hb
  have hl1 : (L.length : Int) ≤ 60 := by omega
  clear hp hL hR hb
  go_enter Try.func99, Try.ntmps99
  go_wp2_with (go_at_call 115; refine (iPV_yes p _ HP.out).mono ?_; rintro e w' ⟨rfl, rfl⟩)
  obtain ⟨W, hW⟩ : ∃ W, W = w.alloc (Obj.cells #[.int .i64 p, .slice none 0 0] 102) := ⟨_, rfl⟩
  obtain ⟨S, hSe⟩ : ∃ S, S = w.heap.size := ⟨_, rfl⟩
  have hSB : w.heap.size ≤ S := by rw [hSe]; exact Nat.le_refl _
  have HW := Lib.hid (show SumW W S p (.slice none 0 0) ∧ Row W w.heap.size (.slice none 0 0) (mkK p L 0) ∧ Value.ownBlock (.slice none 0 0) ≠ some S ∧ Below w.heap.size w W by
    rw [hW, hSe, mkK_zero]
    exact ⟨⟨by simp [go_sem], by simp [go_sem], World.frozen?_alloc_at _ _ _ 0 rfl, World.frozen?_alloc_at _ _ _ 1 rfl, by simp⟩, Row.nil _ _, by simp [Value.ownBlock], Below.alloc (Below.refl _ _) (Nat.le_refl _) _⟩)
  rw [← hW, ← hSe]
  clear hSe hW
  go_loopw [21] (fun i wr => ∃ (k : Nat) (v : Value), k ≤ L.length ∧ i = .int .i64 k ∧ (L.take k).all pwB = true ∧ SumW wr S p v ∧ Row wr w.heap.size v (mkK p L k) ∧ v.ownBlock ≠ some S ∧ Below w.heap.size w wr) (fun i _ => L.length - (intOf i).toNat)
  case atStart => exact ⟨0, _, by omega, rfl, by simp, HW.out⟩
  case round =>
    clear HW
    obtain ⟨k, v, hk, rfl, hpw, hS, hR, hv, hb⟩ := hrel
    by_cases hlt : k < L.length
    · have hltp : (k : Int) < (L.length : Int) := by omega
      have hk0 : (0 : Int) ≤ (k : Int) := by omega
      obtain ⟨x, hx⟩ : ∃ x, x = L.getD k default := ⟨_, rfl⟩
      obtain ⟨g, off, rfl, hg, hc⟩ : ∃ g off, a = some ⟨g, off, none⟩ ∧ g < w.heap.size ∧ ∀ j : Nat, j < L.length → TAt w g (off + j * 4) (L.getD j default) := by
        obtain ⟨_, a', cap', he, h⟩ := HL.out
        injection he with e1 e2 e3
        subst e1
        rcases h with h | h
        · rw [h] at hlt; simp at hlt
        · exact h
      obtain ⟨b0, b1, b2, b3⟩ := (hc k hlt).below hb hg
      rw [← hx] at b0 b1 b2 b3
      have HV2 := Lib.hid hv
      obtain ⟨n, hne⟩ : ∃ n, n = wr.heap.size := ⟨_, rfl⟩
      obtain ⟨W1, hW1⟩ : ∃ W1, W1 = wr.alloc (Obj.cells #[.int .i64 x.a, .int .i64 x.b, .int .i64 x.c, .int .i64 x.t] 91) := ⟨_, rfl⟩
      have hr1 : Below wr.heap.size wr W1 := by rw [hW1]; exact Below.alloc (Below.refl _ _) (Nat.le_refl _) _
      have hT1 : TAt W1 n 0 x := by rw [hW1, hne]; refine ⟨?_, ?_, ?_, ?_⟩ <;> simp [go_sem]
      have hn1 : n < W1.heap.size := by rw [hW1, hne]; simp
      have hf1 : ∀ i, W1.frozen? ⟨n, i, none⟩ = false := fun i => by rw [hW1, hne]; exact World.frozen?_alloc_at _ _ _ i rfl
      have hnv : v.ownBlock ≠ some n := fun e => by have := (World.ownsRow.lt hR _ e).2; omega
      have hSn : S < n := by rw [hne]; exact hS.sz
      have hwn : w.heap.size ≤ n := by rw [hne]; exact hb.size
      have HF := Lib.hid (fun W' (hb' : Below W1.heap.size W1 W') => show TAt W' n 0 x ∧ W'.frozen? ⟨n, 3, none⟩ = false ∧ n < W'.heap.size ∧ SumW W' S p v ∧ Row W' w.heap.size v (mkK p L k) ∧ Below w.heap.size w W' from
        ⟨hT1.below hb' hn1, by rw [hb'.frozen (p := ⟨n, 3, none⟩) hn1]; exact hf1 3, Nat.lt_of_lt_of_le hn1 hb'.size, (hS.below hr1).below hb', (hR.below hr1).below hb', (hb.trans (hr1.mono hb.size)).trans (hb'.mono (Nat.le_trans hb.size hr1.size))⟩)
      have HW1 := Lib.hid hW1
      have HNV := Lib.hid (And.intro hnv (And.intro hSn hwn))
      obtain ⟨t0, t1, t2, t3⟩ := hT1
      simp only [Nat.zero_add] at t0 t1 t2 t3
      have HFit := Lib.hid (fun w => iFit x.a x.b x.c x.t w)
      cases hpx : pwB x
      · rw [show powsB x.a x.b x.c = false from hpx] at HFit
        have HE := Lib.hid (show makeOk p L = false by unfold makeOk; rw [pw_no hlt (by rw [← hx]; exact hpx)]; simp)
        have hz : b = false := by rw [HBE.out, HE.out]
        have hz2 : R = [] := by rw [HRE.out]; unfold makeV; rw [HE.out]; rfl
        subst hz hz2
        clear hx hS hR hv hb hc hpw hpx hr1 hW1 hf1 hn1 hnv hSn hwn
        go_wp2_with fail
        rw [← HW1.out, ← hne]
        clear hne
        go_wp2_with fail
        refine (HFit.out _).mono ?_
        rintro e w2 ⟨rfl, hb2⟩
        have HQ := Lib.hid (HF.out w2 hb2).2.2.2.2.2
        clear hb2 t0 t1 t2 t3
        go_wp2_with fail
        refine bodyPost_ret (v := .tuple #[.slice none 0 0, .bool false]) (by simp [results, Try.results99, go_sem]) rfl ⟨_, rfl, (Row.nil w2 w.heap.size).own (by simp), HQ.out⟩
      · rw [show powsB x.a x.b x.c = true from hpx] at HFit
        have HXK := Lib.hid (show addT p (mkT p x) (mkK p L k) = mkK p L (k + 1) by rw [hx, mkK_next hlt])
        have HPK := Lib.hid (show (L.take (k + 1)).all pwB = true by rw [pw_snoc hlt, hpw, ← hx, hpx]; rfl)
        clear hx hS hR hv hb hc hpw hpx hr1 hW1 hf1 hn1 hnv hSn hwn
        go_wp2_with fail
        rw [← HW1.out, ← hne]
        clear hne
        go_wp2_with fail
        refine (HFit.out _).mono ?_
        rintro e w2 ⟨rfl, hb2⟩
        clear t0 t1 t2 t3
        obtain ⟨⟨t0, t1, t2, t3⟩, f3, hn2, -, -, -⟩ := HF.out w2 hb2
        simp only [Nat.zero_add] at t0 t1 t2 t3
        have HB2 := Lib.hid hb2
        clear hb2
        go_wp2_with fail
        refine (iRed p x.t _ HP.out).mono ?_
        rintro e w3 ⟨rfl, rfl⟩
        go_wp2_with fail
        obtain ⟨hT2, -, hn2', hS2, hR2, hB2⟩ := HF.out w2 HB2.out
        obtain ⟨hv0, hSn, hwn⟩ := HNV.out
        obtain ⟨W3, hW3⟩ : ∃ W3, W3 = w2.setCell ⟨n, 3, none⟩ (.int .i64 (x.t % p)) := ⟨_, rfl⟩
        have hS3 : SumW W3 S p v := by
          rw [hW3]
          have ne : ∀ i, (⟨n, 3, none⟩ : Addr) ≠ ⟨S, i, none⟩ := fun i e => by have := congrArg Addr.block e; simp at this; omega
          exact ⟨by rw [World.cell?_setCell_other _ _ _ _ (ne 0)]; exact hS2.c0, by rw [World.cell?_setCell_other _ _ _ _ (ne 1)]; exact hS2.c1, by rw [World.frozen?_setCell]; exact hS2.f0, by rw [World.frozen?_setCell]; exact hS2.f1, by simpa using hS2.sz⟩
        have hR3 : Row W3 w.heap.size v (mkK p L k) := by
          rw [hW3]
          exact World.ownsRow.kept (row := some n) hR2 ⟨rfl, rfl, rfl, by simp, fun k hk hne => Below.heap_setCell _ _ _ _ (fun e => hne (by rw [e]))⟩ (.inr hv0)
        have hB3 : Below w.heap.size w W3 := by rw [hW3]; exact hB2.setCell hwn _
        have hc3 : W3.cell? ⟨n, 0, none⟩ = some (.int .i64 x.a) ∧ W3.cell? ⟨n, 1, none⟩ = some (.int .i64 x.b) ∧ W3.cell? ⟨n, 2, none⟩ = some (.int .i64 x.c) ∧ W3.cell? ⟨n, 3, none⟩ = some (.int .i64 (x.t % p)) := by
          rw [hW3]
          refine ⟨?_, ?_, ?_, World.cell?_setCell_same _ _ _ t3⟩
          · rw [World.cell?_setCell_other _ _ _ _ (by simp)]; exact t0
          · rw [World.cell?_setCell_other _ _ _ _ (by simp)]; exact t1
          · rw [World.cell?_setCell_other _ _ _ _ (by simp)]; exact t2
        have H3 := Lib.hid (And.intro hS3 (And.intro hR3 hB3))
        rw [← hW3]
        clear t0 t1 t2 t3 f3 hT2 hS2 hR2 hB2 hS3 hR3 hB3 hW3 hv0
        obtain ⟨t0, t1, t2, t3⟩ := hc3
        go_wp2_with fail
        have hf := mkK_facts (p := p) (L := L) HP.out hk hl
        have hpb := isP_bd HP.out
        refine (iPut w.heap.size S p v (mkK p L k) (mkT p x) W3 H3.out.1 H3.out.2.1 H3.out.2.2.size HP.out hf.1 hf.2.1 (isE_iff.2 (emod_bd hpb.1)) (by omega) HV2.out).mono ?_
        rintro e w4 hP4
        have hlow := hP4.low H3.out.2.1 hSB H3.out.2.2.size
        obtain ⟨rfl, v', hS', hR', hv', _, _⟩ := hP4
        rw [HXK.out] at hR'
        have HQ := Lib.hid (And.intro HPK.out (And.intro hS' (And.intro hR' (And.intro hv' (H3.out.2.2.trans hlow)))))
        clear hS' hR' hv' hlow hf hpb t0 t1 t2 t3
        go_wp2_with fail
        go_roundw
        case rel => exact ⟨k + 1, v', by omega, by go_num, HQ.out⟩
        case measure => simp [intOf]; omega
    · have hkl : k = L.length := by omega
      subst hkl
      rw [List.take_length] at hpw
      have hok : makeOk p L = validB p (mkK p L L.length) := by unfold makeOk; rw [HP.out, hpw, decide_eq_true hl]; rfl
      have hb1 : b = validB p (mkK p L L.length) := by rw [HBE.out, hok]
      have hR1 : R = if b = true then mkK p L L.length else [] := by rw [HRE.out]; unfold makeV; rw [hok, hb1]
      have hf := mkK_facts (p := p) (L := L) HP.out (Nat.le_refl _) hl
      have hown := hR.own (by omega)
      obtain ⟨M, hM⟩ : ∃ M, M = mkK p L L.length := ⟨_, rfl⟩
      rw [← hM] at hown hb1 hR1
      obtain ⟨hl2, ao, co, rfl, _⟩ := hown.trms
      have HO := Lib.hid hown
      have Hb := Lib.hid hb
      have HT := Lib.hid (iPolyOf S p ao co M wr hS hown.trms)
      rw [HP.out, ← hb1] at HT
      clear hown hS hb hR hf hv hpw hok hM
      cases b
      · have hz : R = [] := by rw [hR1]; rfl
        subst hz
        clear hb1 hR1
        go_wp2_with (go_at_call 106; refine HT.out.mono ?_; rintro e w5 ⟨rfl, hb5⟩)
        have H5 := Lib.hid (Hb.out.trans (hb5.mono Hb.out.size))
        refine bodyPost_ret (v := .tuple #[.slice none 0 0, .bool false]) (by simp [results, Try.results99, go_sem]) rfl ⟨_, rfl, (Row.nil _ w.heap.size).own (by simp), H5.out⟩
      · have hz : R = M := by rw [hR1]; rfl
        subst hz
        clear hb1 hR1
        go_wp2_with (go_at_call 106; refine HT.out.mono ?_; rintro e w5 ⟨rfl, hb5⟩)
        have H5 := Lib.hid (And.intro (HO.out.below hb5) (Hb.out.trans (hb5.mono Hb.out.size)))
        refine bodyPost_ret (v := .tuple #[.slice ao R.length co, .bool true]) (by simp [results, Try.results99, go_sem]) rfl ⟨_, rfl, H5.out.1, H5.out.2⟩
theorem makeOk_no {p : Int} {L : List Trm} (h : (isP p && decide (L.length ≤ 60)) = false) : makeOk p L = false ∧ makeV p L = [] := by
  have e : makeOk p L = false := by unfold makeOk; rw [h]; rfl
  exact ⟨e, by unfold makeV; rw [e]; rfl⟩
theorem iMakePoly (p : Int) (f : Value) (L : List Trm) (w : World) (hL : Trms w f L) : Calls Try.prog 99 #[.int .i64 p, f] w (GivesPB (makeV p L) (makeOk p L) w) := by
  obtain ⟨l0, a, cap, rfl, l1⟩ := hL
  cases h : (isP p && decide (L.length ≤ 60))
  · rw [(makeOk_no h).1, (makeOk_no h).2]
    exact iMakePoly_no p a L.length cap w h
  · simp only [Bool.and_eq_true, decide_eq_true_eq] at h
    exact iMakePoly_yes p a cap L w h.1 h.2 ⟨l0, a, cap, rfl, l1⟩ _ _ rfl rfl
end Go.Proofs.Ytfmpcniehgipfaa
namespace Go.Proofs.Ytfmpcniehgipfaa
set_option linter.unusedVariables false
open Go.RowKit
/-- whether a number is an unknown -/
def unkB (v : Int) : Bool := decide (0 ≤ v) && decide (v ≤ 2)
theorem unkB_cases {v : Int} (h : unkB v = true) : v = 0 ∨ v = 1 ∨ v = 2 := by simp [unkB] at h; omega
/-- an element times a power of an unknown -/
def unkT (v n a : Int) : Trm := if v = 0 then ⟨n, 0, 0, a⟩ else if v = 1 then ⟨0, n, 0, a⟩ else ⟨0, 0, n, a⟩
theorem unkT_t (v n a : Int) : (unkT v n a).t = a := by unfold unkT; split <;> (try split) <;> rfl
theorem unkT_pw {v n a : Int} (h0 : 0 ≤ n) (h1 : n ≤ 9) : pwB (unkT v n a) = true := by
  have e0 : powB n = true := by unfold powB; simp [h0, h1]
  have e1 : powB 0 = true := by decide
  unfold unkT pwB powsB
  split
  · simp [e0, e1]
  · split <;> simp [e0, e1]
/-- the terms of a line -/
def polL (L : List Int) (v : Int) : List Trm := (List.range L.length).map (fun n : Nat => unkT v (n : Int) (cf L n))
theorem polL_len (L : List Int) (v : Int) : (polL L v).length = L.length := by simp [polL]
theorem polL_at (L : List Int) (v : Int) {k : Nat} (h : k < L.length) : (polL L v).getD k default = unkT v (k : Int) (cf L k) := by
  simp [polL, List.getD_eq_getElem?_getD, h]
theorem polL_take (L : List Int) (v : Int) {k : Nat} (h : k < L.length) : (polL L v).take (k + 1) = (polL L v).take k ++ [unkT v (k : Int) (cf L k)] := by
  have hk : k < (polL L v).length := by rw [polL_len]; exact h
  rw [List.take_succ_eq_append_getElem hk]
  have := polL_at L v h
  rw [List.getD_eq_getElem?_getD, List.getElem?_eq_getElem hk] at this
  rw [show (polL L v)[k] = unkT v (k : Int) (cf L k) from this]
theorem polL_pw {L : List Int} {v : Int} (h : L.length ≤ 10) : (polL L v).all pwB = true := by
  rw [List.all_eq_true]
  intro x hx
  unfold polL at hx
  obtain ⟨n, hn, rfl⟩ := List.mem_map.1 hx
  rw [List.mem_range] at hn
  exact unkT_pw (by omega) (by omega)
theorem mkT_id {p : Int} {x : Trm} (h : 0 ≤ x.t ∧ x.t < p) : mkT p x = x := by
  unfold mkT; rw [Int.emod_eq_of_lt h.1 h.2]
/-- whether there is a polynomial of a line -/
def polB (p : Int) (L : List Int) (v : Int) : Bool := (lineB p L && unkB v) && makeOk p (polL L v)
/-- the polynomial of a line -/
def polV (p : Int) (L : List Int) (v : Int) : List Trm := if polB p L v = true then makeV p (polL L v) else []
theorem polB_no {p : Int} {L : List Int} {v : Int} (h : (lineB p L && unkB v) = false) : polB p L v = false ∧ polV p L v = [] := by
  have e : polB p L v = false := by unfold polB; rw [h]; rfl
  exact ⟨e, by unfold polV; rw [e]; rfl⟩
theorem polB_yes {p : Int} {L : List Int} {v : Int} (h1 : lineB p L = true) (h2 : unkB v = true) : polB p L v = makeOk p (polL L v) ∧ polV p L v = makeV p (polL L v) := by
  have e : polB p L v = makeOk p (polL L v) := by unfold polB; rw [h1, h2]; rfl
  refine ⟨e, ?_⟩
  unfold polV
  rw [e]
  cases h : makeOk p (polL L v)
  · unfold makeV; rw [h]; rfl
  · rfl
theorem polB_sum {p : Int} {L : List Int} {v : Int} (h1 : lineB p L = true) (h2 : unkB v = true) : polB p L v = validB p (mkK p (polL L v) L.length) ∧ polV p L v = if validB p (mkK p (polL L v) L.length) = true then mkK p (polL L v) L.length else [] := by
  obtain ⟨hp, _, hl, _⟩ := lineB_iff.1 h1
  obtain ⟨e1, e2⟩ := polB_yes h1 h2
  have e : makeOk p (polL L v) = validB p (mkK p (polL L v) L.length) := by
    unfold makeOk
    rw [hp, polL_len, polL_pw hl, decide_eq_true (by omega : L.length ≤ 60)]; rfl
  rw [e1, e2]
  unfold makeV
  rw [e, polL_len]
  exact ⟨rfl, rfl⟩
end Go.Proofs.Ytfmpcniehgipfaa
namespace Go.Proofs.Ytfmpcniehgipfaa
set_option linter.unusedVariables false
open Go.RowKit
theorem iUnkP (v : Int) (w : World) : Calls Try.prog 98 #[.int .i64 v] w fun e w' => e = .returned (.bool (unkB v)) ∧ w = w' := by
  unfold unkB
  by_cases h0 : 0 ≤ v
  · have hb : decide (v < 3) = decide (v ≤ 2) := by by_cases h : v < 3 <;> simp <;> omega
    rw [decide_eq_true h0, Bool.true_and, ← hb]
    clear hb
    go_enter Try.func98, Try.ntmps98
    go_wp2_with fail
    go_ret
    exact ⟨rfl, rfl⟩
  · rw [decide_eq_false h0, Bool.false_and]
    go_enter Try.func98, Try.ntmps98
    go_wp2_with fail
    go_ret
    exact ⟨rfl, rfl⟩
set_option maxRecDepth 100000 in
set_option maxHeartbeats 4000000 in
theorem iPolyOfLine_no (p v : Int) (f : Value) (L : List Int) (w : World) (h : Ints w f L) (hl : L.length ≤ 1048576) (hr : (lineB p L && unkB v) = false) :
    Calls Try.prog 48 #[.int .i64 p, f, .int .i64 v] w (GivesPB [] false w) := by
  have HH := Lib.hid (iLineValid p f L w h hl)
  obtain ⟨q, hq⟩ : ∃ q, q = lineB p L := ⟨_, rfl⟩
  rw [← hq] at hr HH
  clear hq
  cases q
  · go_enter Try.func48, Try.ntmps48
    go_wp2_with fail
    refine HH.out.mono ?_
    rintro e w' ⟨rfl, rfl⟩
    go_wp2_with fail
    refine bodyPost_ret (v := .tuple #[.slice none 0 0, .bool false]) (by simp [results, Try.results48, go_sem]) rfl ⟨_, rfl, (Row.nil w w.heap.size).own (by simp), Below.refl _ _⟩
  · rw [Bool.true_and] at hr
    have HI := Lib.hid (fun w => iUnkP v w)
    rw [hr] at HI
    clear hr
    go_enter Try.func48, Try.ntmps48
    go_wp2_with fail
    refine HH.out.mono ?_
    rintro e w' ⟨rfl, rfl⟩
    go_wp2_with fail
    refine (HI.out _).mono ?_
    rintro e w' ⟨rfl, rfl⟩
    go_wp2_with fail
    refine bodyPost_ret (v := .tuple #[.slice none 0 0, .bool false]) (by simp [results, Try.results48, go_sem]) rfl ⟨_, rfl, (Row.nil w w.heap.size).own (by simp), Below.refl _ _⟩
set_option maxRecDepth 100000 in
set_option maxHeartbeats 8000000 in
theorem iPolyOfLine_yes (p v : Int) (f : Value) (L : List Int) (w : World) (h : Ints w f L) (hl : L.length ≤ 1048576) (h1 : lineB p L = true) (h2 : unkB v = true) :
    Calls Try.prog 48 #[.int .i64 p, f, .int .i64 v] w (GivesPB (polV p L v) (polB p L v) w) := by
  obtain ⟨i0, hi, hz0, hz1, hz2⟩ := info_parts infoT
  obtain ⟨eB, eV⟩ := polB_yes h1 h2
  have HH := Lib.hid (iLineValid p f L w h hl)
  rw [h1] at HH
  obtain ⟨hp, hE, hlen, _⟩ := lineB_iff.1 h1
  have HI := Lib.hid (fun w => iUnkP v w)
  rw [h2] at HI
  have hv := unkB_cases h2
  obtain ⟨P, hPe⟩ : ∃ P, P = polL L v := ⟨_, rfl⟩
  have hPL : P.length = L.length := by rw [hPe, polL_len]
  have HPL := Lib.hid hPL
  have HPA := Lib.hid (show ∀ k, k < L.length → P.take (k + 1) = P.take k ++ [unkT v k (cf L k)] from fun k hk => by rw [hPe]; exact polL_take L v hk)
  rw [← hPe] at eB eV
  have HM := Lib.hid (fun f w (hf : Trms w f P) => iMakePoly p f P w hf)
  rw [← eB, ← eV] at HM
  obtain ⟨RB, hRB⟩ : ∃ b, b = polB p L v := ⟨_, rfl⟩
  obtain ⟨RV, hRV⟩ : ∃ b, b = polV p L v := ⟨_, rfl⟩
  rw [← hRB, ← hRV] at HM ⊢
  clear hPe hE h1 h2 eB eV hp hRB hRV
  obtain ⟨hl0, a, cap, rfl, hd⟩ := h
  have HD := Lib.hid hd
  clear hd hPL
  go_enter Try.func48, Try.ntmps48
  go_wp2_with fail
  refine HH.out.mono ?_
  rintro e w' ⟨rfl, rfl⟩
  go_wp2_with fail
  refine (HI.out _).mono ?_
  rintro e w' ⟨rfl, rfl⟩
  go_wp2_with fail
  go_loopw [8, 23] (fun u i wr => ∃ (k : Nat), k ≤ L.length ∧ i = .int .i64 k ∧ Row wr w.heap.size u (P.take k) ∧ Below w.heap.size w wr) (fun _ i _ => L.length - (intOf i).toNat)
  case atStart => exact ⟨0, by omega, rfl, by rw [List.take_zero]; exact Row.nil _ _, Below.refl _ _⟩
  case round =>
    obtain ⟨k, hk, rfl, hR, hb⟩ := hrel
    have htl : (P.take k).length = k := by rw [List.length_take, HPL.out]; omega
    by_cases hlt : k < L.length
    · have hltp : (k : Int) < (L.length : Int) := by omega
      have hk0 : (0 : Int) ≤ (k : Int) := by omega
      obtain ⟨g, off, rfl, hg, hc⟩ : ∃ g off, a = some ⟨g, off, none⟩ ∧ g < w.heap.size ∧ ∀ j, j < L.length → w.cell? ⟨g, off + j, none⟩ = some (.int .i64 (L.getD j 0)) := by
        rcases HD.out with hd | hd
        · rw [hd] at hlt; simp at hlt
        · exact hd
      obtain ⟨x, hx⟩ : ∃ x, x = cf L k := ⟨_, rfl⟩
      have hck : wr.cell? ⟨g, off + k, none⟩ = some (.int .i64 x) := by rw [hx]; exact (hb.cell (p := ⟨g, off + k, none⟩) hg).trans (hc k hlt)
      have HXK := Lib.hid (HPA.out k hlt)
      rw [← hx] at HXK
      have hls := hb.size
      have HF := Lib.hid (And.intro hR hb)
      clear hR hb hx hc HD
      rcases hv with rfl | rfl | rfl
      · have hu0 : unkT 0 (k : Int) x = ⟨k, 0, 0, x⟩ := by unfold unkT; simp
        rw [hu0] at HXK
        obtain ⟨W2, hW2⟩ : ∃ W2, W2 = wr.alloc (Obj.cells #[.int .i64 k, .int .i64 0, .int .i64 0, .int .i64 x] 91) := ⟨_, rfl⟩
        have hbA : Below wr.heap.size wr W2 := by rw [hW2]; exact Below.alloc (Below.refl _ _) (Nat.le_refl _) _
        have HLw := Lib.hid (show Below w.heap.size w W2 from HF.out.2.trans (hbA.mono hls))
        have HR2 := Lib.hid (show Row W2 w.heap.size u8 (P.take k) from HF.out.1.below hbA)
        have hls2 : w.heap.size ≤ W2.heap.size := HLw.out.size
        have HW2 := Lib.hid hW2
        clear hbA hW2
        go_wp2_with (at_builtin; rw [← HW2.out]; refine wpList_append_own _ rfl _ _ 40 rfl w.heap.size 91 i0 (.agg #[.int .i64 0, .int .i64 0, .int .i64 0, .int .i64 0]) 4 32 Try.underlying40 hi hz0 hz1 hz2 rfl (by decide) _ _ _ rfl (World.ownsRow.alloc HR2.out _) _ 1 1 (Trm.cs ⟨k, 0, 0, x⟩) rfl rfl ?c1 ?c2 ?c3 ?c4 ?c5 ?_)
        case c1 =>
          intro j u hj
          match j, hj with
          | 0, hj => simp [Trm.cs] at hj; subst hj; rw [HW2.out]; simp [Addr.add, go_sem]
          | 1, hj => simp [Trm.cs] at hj; subst hj; rw [HW2.out]; simp [Addr.add, go_sem]
          | 2, hj => simp [Trm.cs] at hj; subst hj; rw [HW2.out]; simp [Addr.add, go_sem]
          | 3, hj => simp [Trm.cs] at hj; subst hj; rw [HW2.out]; simp [Addr.add, go_sem]
          | j + 4, hj => simp [Trm.cs] at hj
        case c2 => intro u hu; exact flat_cell [⟨k, 0, 0, x⟩] u (by simpa [flat] using hu)
        case c3 => unfold maxLen; omega
        case c4 => omega
        case c5 => simp at hls2 ⊢; omega
        intro v' w3 hown' hgrow _
        have R3 := Lib.hid (show Row w3 w.heap.size v' (P.take (k + 1)) by
          rw [HXK.out]
          show World.ownsRow _ _ _ _ _ _ _
          rw [flat_app, flat_one, List.length_append, htl]
          exact hown')
        have H3 := Lib.hid (show Below w.heap.size w w3 by
          exact Below.trans (Below.alloc HLw.out hls2 _) (Row.low (World.ownsRow.alloc HR2.out _) (by simp at hls2 ⊢; omega) hgrow))
        clear hown' hgrow
        go_wp2_with fail
        go_roundw
        case rel => exact ⟨k + 1, by omega, by go_num, R3.out, H3.out⟩
        case measure => simp [intOf]; omega
      · have hu0 : unkT 1 (k : Int) x = ⟨0, k, 0, x⟩ := by unfold unkT; simp
        rw [hu0] at HXK
        obtain ⟨W2, hW2⟩ : ∃ W2, W2 = wr.alloc (Obj.cells #[.int .i64 0, .int .i64 k, .int .i64 0, .int .i64 x] 91) := ⟨_, rfl⟩
        have hbA : Below wr.heap.size wr W2 := by rw [hW2]; exact Below.alloc (Below.refl _ _) (Nat.le_refl _) _
        have HLw := Lib.hid (show Below w.heap.size w W2 from HF.out.2.trans (hbA.mono hls))
        have HR2 := Lib.hid (show Row W2 w.heap.size u8 (P.take k) from HF.out.1.below hbA)
        have hls2 : w.heap.size ≤ W2.heap.size := HLw.out.size
        have HW2 := Lib.hid hW2
        clear hbA hW2
        go_wp2_with (at_builtin; rw [← HW2.out]; refine wpList_append_own _ rfl _ _ 40 rfl w.heap.size 91 i0 (.agg #[.int .i64 0, .int .i64 0, .int .i64 0, .int .i64 0]) 4 32 Try.underlying40 hi hz0 hz1 hz2 rfl (by decide) _ _ _ rfl (World.ownsRow.alloc HR2.out _) _ 1 1 (Trm.cs ⟨0, k, 0, x⟩) rfl rfl ?c1 ?c2 ?c3 ?c4 ?c5 ?_)
        case c1 =>
          intro j u hj
          match j, hj with
          | 0, hj => simp [Trm.cs] at hj; subst hj; rw [HW2.out]; simp [Addr.add, go_sem]
          | 1, hj => simp [Trm.cs] at hj; subst hj; rw [HW2.out]; simp [Addr.add, go_sem]
          | 2, hj => simp [Trm.cs] at hj; subst hj; rw [HW2.out]; simp [Addr.add, go_sem]
          | 3, hj => simp [Trm.cs] at hj; subst hj; rw [HW2.out]; simp [Addr.add, go_sem]
          | j + 4, hj => simp [Trm.cs] at hj
        case c2 => intro u hu; exact flat_cell [⟨0, k, 0, x⟩] u (by simpa [flat] using hu)
        case c3 => unfold maxLen; omega
        case c4 => omega
        case c5 => simp at hls2 ⊢; omega
        intro v' w3 hown' hgrow _
        have R3 := Lib.hid (show Row w3 w.heap.size v' (P.take (k + 1)) by
          rw [HXK.out]
          show World.ownsRow _ _ _ _ _ _ _
          rw [flat_app, flat_one, List.length_append, htl]
          exact hown')
        have H3 := Lib.hid (show Below w.heap.size w w3 by
          exact Below.trans (Below.alloc HLw.out hls2 _) (Row.low (World.ownsRow.alloc HR2.out _) (by simp at hls2 ⊢; omega) hgrow))
        clear hown' hgrow
        go_wp2_with fail
        go_roundw
        case rel => exact ⟨k + 1, by omega, by go_num, R3.out, H3.out⟩
        case measure => simp [intOf]; omega
      · have hu0 : unkT 2 (k : Int) x = ⟨0, 0, k, x⟩ := by unfold unkT; simp
        rw [hu0] at HXK
        obtain ⟨W2, hW2⟩ : ∃ W2, W2 = wr.alloc (Obj.cells #[.int .i64 0, .int .i64 0, .int .i64 k, .int .i64 x] 91) := ⟨_, rfl⟩
        have hbA : Below wr.heap.size wr W2 := by rw [hW2]; exact Below.alloc (Below.refl _ _) (Nat.le_refl _) _
        have HLw := Lib.hid (show Below w.heap.size w W2 from HF.out.2.trans (hbA.mono hls))
        have HR2 := Lib.hid (show Row W2 w.heap.size u8 (P.take k) from HF.out.1.below hbA)
        have hls2 : w.heap.size ≤ W2.heap.size := HLw.out.size
        have HW2 := Lib.hid hW2
        clear hbA hW2
        go_wp2_with (at_builtin; rw [← HW2.out]; refine wpList_append_own _ rfl _ _ 40 rfl w.heap.size 91 i0 (.agg #[.int .i64 0, .int .i64 0, .int .i64 0, .int .i64 0]) 4 32 Try.underlying40 hi hz0 hz1 hz2 rfl (by decide) _ _ _ rfl (World.ownsRow.alloc HR2.out _) _ 1 1 (Trm.cs ⟨0, 0, k, x⟩) rfl rfl ?c1 ?c2 ?c3 ?c4 ?c5 ?_)
        case c1 =>
          intro j u hj
          match j, hj with
          | 0, hj => simp [Trm.cs] at hj; subst hj; rw [HW2.out]; simp [Addr.add, go_sem]
          | 1, hj => simp [Trm.cs] at hj; subst hj; rw [HW2.out]; simp [Addr.add, go_sem]
          | 2, hj => simp [Trm.cs] at hj; subst hj; rw [HW2.out]; simp [Addr.add, go_sem]
          | 3, hj => simp [Trm.cs] at hj; subst hj; rw [HW2.out]; simp [Addr.add, go_sem]
          | j + 4, hj => simp [Trm.cs] at hj
        case c2 => intro u hu; exact flat_cell [⟨0, 0, k, x⟩] u (by simpa [flat] using hu)
        case c3 => unfold maxLen; omega
        case c4 => omega
        case c5 => simp at hls2 ⊢; omega
        intro v' w3 hown' hgrow _
        have R3 := Lib.hid (show Row w3 w.heap.size v' (P.take (k + 1)) by
          rw [HXK.out]
          show World.ownsRow _ _ _ _ _ _ _
          rw [flat_app, flat_one, List.length_append, htl]
          exact hown')
        have H3 := Lib.hid (show Below w.heap.size w w3 by
          exact Below.trans (Below.alloc HLw.out hls2 _) (Row.low (World.ownsRow.alloc HR2.out _) (by simp at hls2 ⊢; omega) hgrow))
        clear hown' hgrow
        go_wp2_with fail
        go_roundw
        case rel => exact ⟨k + 1, by omega, by go_num, R3.out, H3.out⟩
        case measure => simp [intOf]; omega
    · have hkl : k = L.length := by omega
      subst hkl
      have hPt : P.take L.length = P := List.take_of_length_le (by rw [HPL.out]; exact Nat.le_refl _)
      rw [hPt] at hR
      have HF := Lib.hid (And.intro (hR.own (by rw [HPL.out]; omega)).trms hb)
      clear hR hb hPt htl
      go_wp2_with fail
      refine (HM.out _ _ HF.out.1).mono ?_
      rintro e w5 ⟨v5, rfl, ho5, hb5⟩
      have H5 := Lib.hid (And.intro (ownTrms_mono ho5 HF.out.2.size) (HF.out.2.trans (hb5.mono HF.out.2.size)))
      clear ho5 hb5
      go_wp2_with fail
      refine bodyPost_ret (v := .tuple #[v5, .bool RB]) (by simp [results, Try.results48, go_sem]) rfl ⟨_, rfl, H5.out⟩
theorem iPolyOfLine (p : Int) (f : Value) (L : List Int) (v : Int) (w : World) (h : Ints w f L) (hl : L.length ≤ 1048576) :
    Calls Try.prog 48 #[.int .i64 p, f, .int .i64 v] w (GivesPB (polV p L v) (polB p L v) w) := by
  cases hr : (lineB p L && unkB v)
  · obtain ⟨e1, e2⟩ := polB_no hr
    rw [e1, e2]
    exact iPolyOfLine_no p v f L w h hl hr
  · rw [Bool.and_eq_true] at hr
    exact iPolyOfLine_yes p v f L w h hl hr.1 hr.2
end Go.Proofs.Ytfmpcniehgipfaa
namespace Go.Proofs.Ytfmpcniehgipfaa
set_option linter.unusedVariables false
open Go.RowKit
set_option maxRecDepth 100000 in
set_option maxHeartbeats 4000000 in
theorem sPolyOfLine_no (p v : Int) (f : Value) (L : List Int) (w : World) (h : Ints w f L) (hl : L.length ≤ 1048576) (hr : (lineB p L && unkB v) = false) :
    Calls Try.prog 47 #[.int .i64 p, f, .int .i64 v] w (GivesPB [] false w) := by
  have HH := Lib.hid (sLineValid p f L w h hl)
  obtain ⟨q, hq⟩ : ∃ q, q = lineB p L := ⟨_, rfl⟩
  rw [← hq] at hr HH
  clear hq
  cases q
  · go_enter Try.func47, Try.ntmps47
    go_wp2_with fail
    refine HH.out.mono ?_
    rintro e w' ⟨rfl, rfl⟩
    go_wp2_with fail
    refine bodyPost_ret (v := .tuple #[.slice (some ⟨w.heap.size, 0, none⟩) 0 0, .bool false]) (by simp [results, Try.results47, go_sem]) rfl ⟨_, rfl, ?_, Below.alloc (Below.refl _ _) (Nat.le_refl _) _⟩
    exact (Row.lit0 w w.heap.size (Nat.le_refl _)).own (by simp)
  · rw [Bool.true_and] at hr
    have HI := Lib.hid (fun w => sIn v 0 2 w)
    have hu : (decide (0 ≤ v) && decide (v ≤ 2)) = false := hr
    rw [hu] at HI
    clear hu hr
    go_enter Try.func47, Try.ntmps47
    go_wp2_with fail
    refine HH.out.mono ?_
    rintro e w' ⟨rfl, rfl⟩
    go_wp2_with fail
    refine (HI.out _).mono ?_
    rintro e w' ⟨rfl, rfl⟩
    go_wp2_with fail
    refine bodyPost_ret (v := .tuple #[.slice (some ⟨w.heap.size, 0, none⟩) 0 0, .bool false]) (by simp [results, Try.results47, go_sem]) rfl ⟨_, rfl, ?_, Below.alloc (Below.refl _ _) (Nat.le_refl _) _⟩
    exact (Row.lit0 w w.heap.size (Nat.le_refl _)).own (by simp)
set_option maxRecDepth 100000 in
set_option maxHeartbeats 8000000 in
theorem sPolyOfLine_yes (p v : Int) (f : Value) (L : List Int) (w : World) (h : Ints w f L) (hl : L.length ≤ 1048576) (h1 : lineB p L = true) (h2 : unkB v = true) :
    Calls Try.prog 47 #[.int .i64 p, f, .int .i64 v] w (GivesPB (polV p L v) (polB p L v) w) := by
  obtain ⟨eB, eV⟩ := polB_sum h1 h2
  obtain ⟨RB, hRB⟩ : ∃ b, b = polB p L v := ⟨_, rfl⟩
  obtain ⟨RV, hRV⟩ : ∃ b, b = polV p L v := ⟨_, rfl⟩
  rw [← hRB] at eB
  rw [← hRV] at eV
  rw [← hRB, ← hRV]
  have HH := Lib.hid (sLineValid p f L w h hl)
  rw [h1] at HH
  obtain ⟨hp, hE, hlen, _⟩ := lineB_iff.1 h1
  have HP := Lib.hid hp
  have HE := Lib.hid hE
  have HI := Lib.hid (fun w => sIn v 0 2 w)
  have hu : (decide (0 ≤ v) && decide (v ≤ 2)) = true := h2
  rw [hu] at HI
  have hv := unkB_cases h2
  obtain ⟨P, hPe⟩ : ∃ P, P = polL L v := ⟨_, rfl⟩
  have HPL := Lib.hid (show P.length = L.length by rw [hPe, polL_len])
  have HPA := Lib.hid (show ∀ k, k < L.length → P.getD k default = unkT v k (cf L k) from fun k hk => by rw [hPe]; exact polL_at L v hk)
  rw [← hPe] at eB eV
  rw [← eB] at eV
  have HRB := Lib.hid eB
  have HRV := Lib.hid eV
  clear hPe hE h1 h2 hu eB eV hp hRB hRV
  obtain ⟨hl0, a, cap, rfl, hd⟩ := h
  have HD := Lib.hid hd
  clear hd
  go_enter Try.func47, Try.ntmps47
  go_wp2_with fail
  refine HH.out.mono ?_
  rintro e w' ⟨rfl, rfl⟩
  go_wp2_with fail
  refine (HI.out _).mono ?_
  rintro e w' ⟨rfl, rfl⟩
  go_wp2_with fail
  obtain ⟨W, hW⟩ : ∃ W, W = w.alloc (Obj.cells #[.slice none 0 0] 88) := ⟨_, rfl⟩
  obtain ⟨S, hSe⟩ : ∃ S, S = w.heap.size := ⟨_, rfl⟩
  have hSB : w.heap.size ≤ S := by rw [hSe]; exact Nat.le_refl _
  have HW := Lib.hid (show ModW W S (.slice none 0 0) ∧ Row W w.heap.size (.slice none 0 0) (mkK p P 0) ∧ Value.ownBlock (.slice none 0 0) ≠ some S ∧ Below w.heap.size w W by
    rw [hW, hSe, mkK_zero]
    exact ⟨⟨by simp [go_sem], World.frozen?_alloc_at _ _ _ 0 rfl, by simp⟩, Row.nil _ _, by simp [Value.ownBlock], Below.alloc (Below.refl _ _) (Nat.le_refl _) _⟩)
  rw [← hW, ← hSe]
  clear hSe hW
  go_loopw [25] (fun i wr => ∃ (k : Nat) (u : Value), k ≤ L.length ∧ i = .int .i64 k ∧ ModW wr S u ∧ Row wr w.heap.size u (mkK p P k) ∧ u.ownBlock ≠ some S ∧ Below w.heap.size w wr) (fun i _ => L.length - (intOf i).toNat)
  case atStart => exact ⟨0, _, by omega, rfl, HW.out⟩
  case round =>
    clear HW
    obtain ⟨k, u, hk, rfl, hS, hR, hu, hb⟩ := hrel
    have hf := mkK_facts (p := p) (L := P) HP.out (k := k) (by rw [HPL.out]; exact hk) (by rw [HPL.out]; omega)
    by_cases hlt : k < L.length
    · have hltp : (k : Int) < (L.length : Int) := by omega
      have hk0 : (0 : Int) ≤ (k : Int) := by omega
      obtain ⟨g, off, rfl, hg, hc⟩ : ∃ g off, a = some ⟨g, off, none⟩ ∧ g < w.heap.size ∧ ∀ j, j < L.length → w.cell? ⟨g, off + j, none⟩ = some (.int .i64 (L.getD j 0)) := by
        rcases HD.out with hd | hd
        · rw [hd] at hlt; simp at hlt
        · exact hd
      obtain ⟨x, hx⟩ : ∃ x, x = cf L k := ⟨_, rfl⟩
      have hck : wr.cell? ⟨g, off + k, none⟩ = some (.int .i64 x) := by rw [hx]; exact (hb.cell (p := ⟨g, off + k, none⟩) hg).trans (hc k hlt)
      have hxe : 0 ≤ x ∧ x < p := by rw [hx]; exact HE.out k
      have HXK := Lib.hid (show addT p (unkT v k x) (mkK p P k) = mkK p P (k + 1) by
        rw [← mkK_next (by rw [HPL.out]; exact hlt), HPA.out k hlt, ← hx, mkT_id (by rw [unkT_t]; exact hxe)])
      obtain ⟨n, hne⟩ : ∃ n, n = wr.heap.size := ⟨_, rfl⟩
      have HF := Lib.hid (show ∀ W', Below wr.heap.size wr W' → ModW W' S u ∧ Row W' w.heap.size u (mkK p P k) ∧ Below w.heap.size w W' from fun W' hb' =>
        ⟨hS.below hb', hR.below hb', hb.trans (hb'.mono hb.size)⟩)
      have HV2 := Lib.hid hu
      have HFF := Lib.hid hf
      clear hS hR hu hb hf hx hc HD
      rcases hv with rfl | rfl | rfl
      · have hu0 : unkT 0 (k : Int) x = ⟨k, 0, 0, x⟩ := by unfold unkT; simp
        rw [hu0] at HXK
        go_wp2_with fail
        have hbA : Below wr.heap.size wr (wr.alloc (Obj.cells #[.int .i64 k, .int .i64 0, .int .i64 0, .int .i64 x] 91)) := Below.alloc (Below.refl _ _) (Nat.le_refl _) _
        obtain ⟨hS, hR, hb⟩ := HF.out _ hbA
        refine (sAdd w.heap.size S p (mkK p P k) ⟨k, 0, 0, x⟩ u _ hS hR (by have := HFF.out.2.2; omega) HFF.out.1 HV2.out HP.out HFF.out.2.1 hxe hb.size).mono ?_
        rintro e w4 hP4
        have hlow := hP4.low hR hSB hb.size
        obtain ⟨rfl, v', hS', hR', hv', _, _⟩ := hP4
        rw [HXK.out] at hR'
        have HQ := Lib.hid (And.intro hS' (And.intro hR' (And.intro hv' (hb.trans hlow))))
        clear hS' hR' hv' hlow hS hR hb hbA
        go_wp2_with fail
        go_roundw
        case rel => exact ⟨k + 1, v', by omega, by go_num, HQ.out⟩
        case measure => simp [intOf]; omega
      · have hu0 : unkT 1 (k : Int) x = ⟨0, k, 0, x⟩ := by unfold unkT; simp
        rw [hu0] at HXK
        go_wp2_with fail
        have hbA : Below wr.heap.size wr (wr.alloc (Obj.cells #[.int .i64 0, .int .i64 k, .int .i64 0, .int .i64 x] 91)) := Below.alloc (Below.refl _ _) (Nat.le_refl _) _
        obtain ⟨hS, hR, hb⟩ := HF.out _ hbA
        refine (sAdd w.heap.size S p (mkK p P k) ⟨0, k, 0, x⟩ u _ hS hR (by have := HFF.out.2.2; omega) HFF.out.1 HV2.out HP.out HFF.out.2.1 hxe hb.size).mono ?_
        rintro e w4 hP4
        have hlow := hP4.low hR hSB hb.size
        obtain ⟨rfl, v', hS', hR', hv', _, _⟩ := hP4
        rw [HXK.out] at hR'
        have HQ := Lib.hid (And.intro hS' (And.intro hR' (And.intro hv' (hb.trans hlow))))
        clear hS' hR' hv' hlow hS hR hb hbA
        go_wp2_with fail
        go_roundw
        case rel => exact ⟨k + 1, v', by omega, by go_num, HQ.out⟩
        case measure => simp [intOf]; omega
      · have hu0 : unkT 2 (k : Int) x = ⟨0, 0, k, x⟩ := by unfold unkT; simp
        rw [hu0] at HXK
        go_wp2_with fail
        have hbA : Below wr.heap.size wr (wr.alloc (Obj.cells #[.int .i64 0, .int .i64 0, .int .i64 k, .int .i64 x] 91)) := Below.alloc (Below.refl _ _) (Nat.le_refl _) _
        obtain ⟨hS, hR, hb⟩ := HF.out _ hbA
        refine (sAdd w.heap.size S p (mkK p P k) ⟨0, 0, k, x⟩ u _ hS hR (by have := HFF.out.2.2; omega) HFF.out.1 HV2.out HP.out HFF.out.2.1 hxe hb.size).mono ?_
        rintro e w4 hP4
        have hlow := hP4.low hR hSB hb.size
        obtain ⟨rfl, v', hS', hR', hv', _, _⟩ := hP4
        rw [HXK.out] at hR'
        have HQ := Lib.hid (And.intro hS' (And.intro hR' (And.intro hv' (hb.trans hlow))))
        clear hS' hR' hv' hlow hS hR hb hbA
        go_wp2_with fail
        go_roundw
        case rel => exact ⟨k + 1, v', by omega, by go_num, HQ.out⟩
        case measure => simp [intOf]; omega
    · have hkl : k = L.length := by omega
      subst hkl
      have HTT := Lib.hid (sTold w.heap.size p HP.out (mkK p P L.length) u wr hR (by have := hf.2.2; omega))
      rw [← HRB.out, ← HRV.out] at HTT
      obtain ⟨s0, sf, _⟩ := hS
      have Hb := Lib.hid hb
      clear hR hb hf hu
      go_wp2_with fail
      refine HTT.out.mono ?_
      rintro e w5 ⟨v5, rfl, ho5, hb5⟩
      have H5 := Lib.hid (And.intro (ownTrms_mono ho5 Hb.out.size) (Hb.out.trans (hb5.mono Hb.out.size)))
      clear ho5 hb5
      go_wp2_with fail
      refine bodyPost_ret (v := .tuple #[v5, .bool RB]) (by simp [results, Try.results47, go_sem]) rfl ⟨_, rfl, H5.out⟩
theorem sPolyOfLine (p : Int) (f : Value) (L : List Int) (v : Int) (w : World) (h : Ints w f L) (hl : L.length ≤ 1048576) :
    Calls Try.prog 47 #[.int .i64 p, f, .int .i64 v] w (GivesPB (polV p L v) (polB p L v) w) := by
  cases hr : (lineB p L && unkB v)
  · obtain ⟨e1, e2⟩ := polB_no hr
    rw [e1, e2]
    exact sPolyOfLine_no p v f L w h hl hr
  · rw [Bool.and_eq_true] at hr
    exact sPolyOfLine_yes p v f L w h hl hr.1 hr.2
end Go.Proofs.Ytfmpcniehgipfaa
namespace Go.Proofs.Ytfmpcniehgipfaa
set_option linter.unusedVariables false
open Go.RowKit
set_option maxRecDepth 100000 in
set_option maxHeartbeats 8000000 in
theorem xPolyOfLine_in (a0 : Int) (a1 : Option Addr) (L1 : List Int) (c1 : Nat) (a2 : Int) (r0 : List Trm) (r1 : Bool) (w : World) (h1 : Ints w (.slice a1 L1.length c1) L1) (hl1 : L1.length ≤ 1048576)
    (hS : ∀ f1, ∀ w, Ints w f1 L1 → Calls Try.prog 47 #[.int .i64 a0, f1, .int .i64 a2] w fun e w' => ∃ u0, e = .returned (.tuple #[u0, .bool r1]) ∧ OwnTrms w' w.heap.size u0 r0 ∧ Below w.heap.size w w')
    (hI : ∀ f1, ∀ w, Ints w f1 L1 → Calls Try.prog 48 #[.int .i64 a0, f1, .int .i64 a2] w fun e w' => ∃ u0, e = .returned (.tuple #[u0, .bool r1]) ∧ OwnTrms w' w.heap.size u0 r0 ∧ Below w.heap.size w w') :
    Calls Try.prog 13 #[.int .i64 a0, .slice a1 L1.length c1, .int .i64 a2] w fun e w' => e = .returned (.bool true) ∧ Below w.heap.size w w' := by
  have hng1 : ¬ (L1.length : Int) > 1048576 := by omega
  have Q1 := Lib.hid h1
  have n1 : (L1.length : Int) ≤ 1048576 := by omega
  clear h1
  have HSP := Lib.hid hS
  have HIM := Lib.hid hI
  clear hS hI
  have bb1 := bne_self2 r1
  go_enter Try.func13, Try.ntmps13
  have B := Lib.hid (Below.refl w.heap.size w)
  go_wp2_with fail
  refine (toIv _ L1 _ (Q1.out.below B.out) hl1).mono ?_
  rintro e W1 ⟨s1, rfl, ho, hb⟩
  have Z1 := Lib.hid hb.size
  replace B := Lib.hid (B.out.trans (hb.mono B.out.size))
  clear hb
  have S1 := Lib.hid ho.ints
  clear ho
  go_wp2_with fail
  refine (HSP.out _ _ S1.out).mono ?_
  rintro e W2 ⟨v0, rfl, hv0, hb⟩
  have Z2 := Lib.hid hb.size
  replace B := Lib.hid (B.out.trans (hb.mono B.out.size))
  replace S1 := Lib.hid (S1.out.below hb)
  clear hb
  clear S1
  have V0 := Lib.hid hv0.trms
  have z0 : (r0.length : Int) ≤ 1048576 := by have := hv0.1; omega
  clear hv0
  have X := Lib.hid (Below.refl W2.heap.size W2)
  go_wp2_with fail
  refine (toIv _ L1 _ (Q1.out.below B.out) hl1).mono ?_
  rintro e W3 ⟨x1, rfl, ho, hb⟩
  have Z3 := Lib.hid hb.size
  replace B := Lib.hid (B.out.trans (hb.mono B.out.size))
  replace X := Lib.hid (X.out.trans (hb.mono X.out.size))
  clear hb
  have O1 := Lib.hid ho
  clear ho
  have Y1 := Lib.hid (Below.refl W3.heap.size W3)
  go_wp2_with fail
  refine (HIM.out _ _ (O1.out.ints.below Y1.out)).mono ?_
  rintro e W4 ⟨g0, rfl, hg0, hb⟩
  have P1 := Lib.hid (show w.heap.size ≤ W2.heap.size ∧ W2.heap.size ≤ W2.heap.size ∧ W3.heap.size ≤ W3.heap.size by have := B.out.size; have := X.out.size; have := Z1.out; have := Z2.out; have := Z3.out; first | omega | (refine ⟨?_, ?_, ?_⟩ <;> omega))
  have PG := Lib.hid (show w.heap.size ≤ W3.heap.size ∧ W2.heap.size ≤ W3.heap.size by have := Z1.out; have := Z2.out; have := Z3.out; first | omega | (refine ⟨?_, ?_⟩ <;> omega))
  replace B := Lib.hid (B.out.trans (hb.mono B.out.size))
  replace X := Lib.hid (X.out.trans (hb.mono X.out.size))
  replace Y1 := Lib.hid (Y1.out.trans (hb.mono Y1.out.size))
  clear hb
  have G0 := Lib.hid hg0
  clear hg0
  go_wp2_with fail
  refine (eqP g0 v0 r0 _ G0.out.trms (V0.out.below X.out)).mono ?_
  rintro e W5 ⟨rfl, hb⟩
  replace B := Lib.hid (B.out.trans (hb.mono B.out.size))
  replace X := Lib.hid (X.out.trans (hb.mono X.out.size))
  replace Y1 := Lib.hid (Y1.out.trans (hb.mono Y1.out.size))
  replace G0 := Lib.hid (G0.out.below hb)
  clear hb
  go_wp2_with fail
  refine (toIv _ L1 _ (Q1.out.below B.out) hl1).mono ?_
  rintro e W6 ⟨y1, rfl, ho, hb⟩
  replace B := Lib.hid (B.out.trans (hb.mono B.out.size))
  replace X := Lib.hid (X.out.trans (hb.mono X.out.size))
  replace Y1 := Lib.hid (Y1.out.trans (hb.mono Y1.out.size))
  replace G0 := Lib.hid (G0.out.below hb)
  clear hb
  have S1 := Lib.hid ho.ints
  clear ho
  go_wp2_with fail
  refine (eqIS x1 y1 L1 _ (O1.out.ints.below Y1.out) S1.out).mono ?_
  rintro e W7 ⟨rfl, hb⟩
  clear S1
  replace B := Lib.hid (B.out.trans (hb.mono B.out.size))
  replace X := Lib.hid (X.out.trans (hb.mono X.out.size))
  replace Y1 := Lib.hid (Y1.out.trans (hb.mono Y1.out.size))
  replace G0 := Lib.hid (G0.out.below hb)
  clear hb
  go_wp2_with fail
  refine (markIsame x1 L1 _ (1) W3 _ O1.out (same_of Y1.out) (by omega) (by omega)).mono ?_
  rintro e W8 ⟨rfl, hb⟩
  replace B := Lib.hid (B.out.trans (hb.low.mono P1.out.1))
  replace X := Lib.hid (X.out.trans (hb.low.mono P1.out.2.1))
  replace G0 := Lib.hid (G0.out.betw' P1.out.2.2 hb)
  clear hb
  go_wp2_with fail
  refine (eqP g0 v0 r0 _ G0.out.trms (V0.out.below X.out)).mono ?_
  rintro e W9 ⟨rfl, hb⟩
  replace B := Lib.hid (B.out.trans (hb.mono B.out.size))
  replace X := Lib.hid (X.out.trans (hb.mono X.out.size))
  replace G0 := Lib.hid (G0.out.below hb)
  clear hb
  go_wp2_with fail
  refine (markTown g0 r0 _ (1) _ G0.out (by omega) (by omega)).mono ?_
  rintro e W10 ⟨rfl, hh, hb, hs⟩
  replace B := Lib.hid (B.out.trans (hb.mono PG.out.1))
  replace X := Lib.hid (X.out.trans (hb.mono PG.out.2))
  have D0 := Lib.hid hh
  clear hh hb hs
  go_wp2_with fail
  refine (heldTown g0 r0.length _ 1 _ D0.out (by omega) (by omega)).mono ?_
  rintro e W11 ⟨rfl, rfl⟩
  go_wp2_with fail
  refine (toIv _ L1 _ (Q1.out.below B.out) hl1).mono ?_
  rintro e W12 ⟨t1, rfl, ho, hb⟩
  replace B := Lib.hid (B.out.trans (hb.mono B.out.size))
  replace X := Lib.hid (X.out.trans (hb.mono X.out.size))
  replace D0 := Lib.hid (D0.out.below hb)
  clear hb
  have S1 := Lib.hid ho.ints
  clear ho
  go_wp2_with fail
  refine (HIM.out _ _ S1.out).mono ?_
  rintro e W13 ⟨t0, rfl, ht0, hb⟩
  replace B := Lib.hid (B.out.trans (hb.mono B.out.size))
  replace X := Lib.hid (X.out.trans (hb.mono X.out.size))
  replace D0 := Lib.hid (D0.out.below hb)
  replace S1 := Lib.hid (S1.out.below hb)
  clear hb
  clear S1
  have T0 := Lib.hid ht0.trms
  clear ht0
  go_wp2_with fail
  refine (eqP t0 v0 r0 _ T0.out (V0.out.below X.out)).mono ?_
  rintro e W14 ⟨rfl, hb⟩
  replace B := Lib.hid (B.out.trans (hb.mono B.out.size))
  replace X := Lib.hid (X.out.trans (hb.mono X.out.size))
  replace D0 := Lib.hid (D0.out.below hb)
  replace T0 := Lib.hid (T0.out.below hb)
  clear hb
  go_wp2_with fail
  refine (heldTown g0 r0.length _ 1 _ D0.out (by omega) (by omega)).mono ?_
  rintro e W15 ⟨rfl, rfl⟩
  go_wp2_with fail
  go_ret
  exact ⟨rfl, B.out⟩
set_option maxHeartbeats 1000000 in
theorem xPolyOfLine_long0 (a0 : Int) (a1 : Option Addr) (n1 c1 : Nat) (a2 : Int) (w : World) (h1 : 1048576 < n1) :
    Calls Try.prog 13 #[.int .i64 a0, .slice a1 n1 c1, .int .i64 a2] w fun e w' => e = .returned (.bool true) ∧ Below w.heap.size w w' := by
  have hgt : (n1 : Int) > 1048576 := by omega
  clear h1
  go_enter Try.func13, Try.ntmps13
  go_wp2_with fail
  go_ret
  exact ⟨rfl, Below.refl _ _⟩

theorem xPolyOfLine (a0 : Int) (a1 : Option Addr) (len1 c1 : Nat) (L1 : List Int) (a2 : Int) (w : World) (h1 : RowL w a1 len1 L1) :
    Calls Try.prog 13 #[.int .i64 a0, .slice a1 len1 c1, .int .i64 a2] w fun e w' => e = .returned (.bool true) ∧ Below w.heap.size w w' := by
  by_cases q1 : len1 ≤ 1048576
  · skip
    have e1 := h1.1
    subst e1
    exact xPolyOfLine_in a0 a1 L1 c1 a2 (polV a0 L1 a2) (polB a0 L1 a2) w (h1.ints (by omega)) q1 (fun f1 w k1 => sPolyOfLine a0 f1 L1 a2 w k1 (by omega)) (fun f1 w k1 => iPolyOfLine a0 f1 L1 a2 w k1 (by omega))
  · exact xPolyOfLine_long0 a0 a1 len1 c1 a2 w (by omega)
end Go.Proofs.Ytfmpcniehgipfaa
