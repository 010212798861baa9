/-
  Contracts of the sum of two polynomials, of the model and of the program, and the walk of the exact law of AddPoly. Conditions: none but that the slices read as lists of terms.
  The program's MulPoly. Conditions: what the slices hold is known.
  Sums and products of polynomials as lists of terms: order, values, degrees. Mathematics alone. Conditions: the lists are polynomials over one field.
  What the laws on sums and products say, of the contracts' values. Conditions: none.
-/
import Derived.Test.YtlidplmpglpkgaaBa24
import Derived.Lib.AppendZeros
import Derived.Test.YtlidplmpglpkgaaBa25
import Derived.Test.YtlidplmpglpkgaaBa10
import Derived.Test.YtlidplmpglpkgaaBa5
import Derived.Test.YtlidplmpglpkgaaBa1
import Derived.Test.YtlidplmpglpkgaaBa21
namespace Go.Proofs.Ytlidplmpglpkgaa
open Go.RowKit
/-- nothing appended to nothing -/
theorem run_append_none {P : Program} (w : World) (t ty e : TypeId) (i : TypeInfo) (ht : P.underlying t = some (.slice e)) (hi : P.info? e = some i) (b : Addr) :
    (Builtin.append_ #[t, t] ty #[.slice (some b) 0 0, .slice none 0 0]).run P w = .ok (.slice (some b) 0 0) w := by
  simp [Builtin.append_, run_underlying ht, sizeOf, typeInfo, hi, Builtin.lenOf, Builtin.firstCells, storeCells]
theorem wpList_append_none {P : Program} {w : World} {ops : Array Oper} {rest : List Oper} {o : Oper} {a : Act} {Q : Exit → Act → World → Prop} (hgd : o.guard = none) (s x : Operand) (t e : TypeId) (i : TypeInfo)
    (ho : o.op = .call { callee := .builtin .append, args := #[s, x], argTypes := #[t, t] }) (ht : P.underlying t = some (.slice e)) (hi : P.info? e = some i) (b : Addr) (hs : a.eval s = .slice (some b) 0 0) (hx : a.eval x = .slice none 0 0)
    (h : wpList P ops Q rest (a.put o.dst (.slice (some b) 0 0)) w) : wpList P ops Q (o :: rest) a w := by
  refine wpList_plain hgd fun _ hK => ?_
  have hr := run_append_none w t o.type e i ht hi b
  have he : (execOp a.eval o).run P w = .ok (.value (.slice (some b) 0 0)) w := by
    unfold execOp
    simp only [ho, resolve, invoke, builtin, Sem.run_bind, Sem.run_pure, Result.andThen_ok, List.map_toArray, List.map_cons, List.map_nil, hs, hx, hr]
  unfold Oper.wp
  rw [he]
  exact hK _ _ h
theorem addT_nil {p : Int} {x : Trm} (hx : ¬ x.t = 0) : addT p x [] = [x] := by
  unfold addT
  rw [if_neg hx, if_neg (by simp [hit])]
  simp [plc]
set_option maxRecDepth 100000 in
set_option maxHeartbeats 16000000 in
theorem sAddNil (B S : Nat) (p : Int) (x : Trm) (w : World) (hS : ModW w S (.slice none 0 0)) (hB : B ≤ w.heap.size) :
    Calls Try.prog 192 #[.pointer (some ⟨S, 0, none⟩), .int .i64 p, .agg #[.int .i64 x.a, .int .i64 x.b, .int .i64 x.c, .int .i64 x.t]] w (AddTo B S (.slice none 0 0) (addT p x []) w) := by
  obtain ⟨i0, hi, hz0, hz1, hz2⟩ := info_parts infoT
  have HMO := Lib.hid hS
  obtain ⟨s0, sf, ssz⟩ := hS
  go_enter Try.func192, Try.ntmps192
  go_wp2_with fail
  obtain ⟨W, hW⟩ : ∃ W, W = w.alloc (Obj.cells #[.int .i64 x.a, .int .i64 x.b, .int .i64 x.c, .int .i64 x.t] 87) := ⟨_, rfl⟩
  have hb0 : Below w.heap.size w W := by rw [hW]; exact Below.alloc (Below.refl _ _) (Nat.le_refl _) _
  have HB0 := Lib.hid hb0
  have HT := Lib.hid (show TAt W w.heap.size 0 x by rw [hW]; refine ⟨?_, ?_, ?_, ?_⟩ <;> simp [go_sem])
  have hn1 : w.heap.size < W.heap.size := by rw [hW]; simp
  have HF := Lib.hid (show ∀ w', Below W.heap.size W w' → w'.cell? ⟨S, 0, none⟩ = some (.slice none 0 0) from fun w' hb => ((HMO.out.below hb0).below hb).c)
  rw [← hW]
  clear hW hb0 s0 sf
  go_loopg [6] 0 (fun gk i wr => gk = 0 ∧ i = .int .i64 0 ∧ Below W.heap.size W wr)
  case atStart => exact ⟨rfl, rfl, Below.refl _ _⟩
  case round =>
    obtain ⟨rfl, rfl, hb⟩ := hrel
    have Hb := Lib.hid hb
    clear hb
    have HFr := Lib.hid (show ∀ w', Below wr.heap.size wr w' → w'.cell? ⟨S, 0, none⟩ = some (.slice none 0 0) from fun w' hb => HF.out w' (Hb.out.trans (hb.mono Hb.out.size)))
    go_upto_region 2 with fail
    refine wp_region_below (by kernel_rfl) (by kernel_rfl) ?_
    (with_reducible refine wpQuiet_yes ?_ ?_; (focus (kernel_rfl)); intro K hK; go_simp; refine ⟨_, fun _ _ => rfl, ?_⟩; with_reducible refine hK _ ?_; clear hK K)
    (with_reducible refine wpQuiet_yes ?_ ?_; (focus (kernel_rfl)); intro K hK; go_simp; refine ⟨_, fun _ _ => rfl, ?_⟩; with_reducible refine hK _ ?_; clear hK K)
    (with_reducible refine wpQuiet_yes ?_ ?_; (focus (kernel_rfl)); intro K hK; go_simp; refine ⟨_, fun _ _ => rfl, ?_⟩; with_reducible refine hK _ ?_; clear hK K)
    (with_reducible refine wpQuiet_yes ?_ ?_; (focus (kernel_rfl)); intro K hK; go_simp; refine ⟨_, fun _ _ => rfl, ?_⟩; with_reducible refine hK _ ?_; clear hK K)
    (with_reducible refine wpQuiet_yes ?_ ?_; (focus (kernel_rfl)); intro K hK; go_simp; refine ⟨(.slice none 0 0), ?_, ?_⟩; rotate_left; with_reducible refine hK _ ?_; clear hK K; rotate_left)
    · intro w' hw
      simp only [HFr.out w' hw, go_sem, Result.andThen, and_self]
    (with_reducible refine wpQuiet_yes ?_ ?_; (focus (kernel_rfl)); intro K hK; go_simp; refine ⟨_, fun _ _ => rfl, ?_⟩; with_reducible refine hK _ ?_; clear hK K)
    (with_reducible refine wpQuiet_yes ?_ ?_; (focus (kernel_rfl)); intro K hK; go_simp; refine ⟨(.bool false), ?_, ?_⟩; rotate_left; with_reducible refine hK _ ?_; clear hK K; rotate_left)
    · intro w' hw
      simp
    (with_reducible refine wpQuiet_yes ?_ ?_; (focus (kernel_rfl)); intro K hK; go_simp; refine ⟨_, fun _ _ => rfl, ?_⟩; with_reducible refine hK _ ?_; clear hK K)
    iterate 11 (with_reducible refine wpQuiet_no ?_ ?_; (focus (kernel_rfl)); intro K hK; go_simp; with_reducible refine hK _ ?_; clear hK K)
    (with_reducible refine wpQuiet_yes ?_ ?_; (focus (kernel_rfl)); intro K hK; go_simp; refine ⟨_, fun _ _ => rfl, ?_⟩; with_reducible refine hK _ ?_; clear hK K)
    refine wpQuiet_nil fun w2 hb2 => ?_
    have HB2 := Lib.hid (Hb.out.trans (hb2.mono Hb.out.size))
    clear hb2 HFr Hb
    simp only [Exit.then]
    obtain ⟨t0, t1, t2, t3⟩ := HT.out.below HB2.out hn1
    simp only [Nat.zero_add] at t0 t1 t2 t3
    by_cases hx0 : x.t = 0
    · have HX0 := Lib.hid hx0
      have HLO := Lib.hid (HB0.out.trans (HB2.out.mono HB0.out.size))
      go_wp2_with fail
      refine bodyPost_ret (v := .tuple #[]) (by simp [results, Try.results192, go_sem]) rfl ⟨rfl, _, HMO.out.below HLO.out, by rw [addT_zero0 HX0.out]; exact Row.nil _ _, by simp [Value.ownBlock], Kept.of_below HLO.out, .inl rfl⟩
    · have HX0 := Lib.hid hx0
      have hxe : (x.t == 0) = false := by simp [hx0]
      clear hx0
      have HFr := Lib.hid (show ∀ w', Below w2.heap.size w2 w' → w'.cell? ⟨S, 0, none⟩ = some (.slice none 0 0) from fun w' hb => HF.out w' (HB2.out.trans (hb.mono HB2.out.size)))
      go_upto_region 7 with fail
      clear t0 t1 t2 t3
      refine wp_region_below (by kernel_rfl) (by kernel_rfl) ?_
      (with_reducible refine wpQuiet_yes ?_ ?_; (focus (kernel_rfl)); intro K hK; go_simp; refine ⟨_, fun _ _ => rfl, ?_⟩; with_reducible refine hK _ ?_; clear hK K)
      (with_reducible refine wpQuiet_yes ?_ ?_; (focus (kernel_rfl)); intro K hK; go_simp; refine ⟨_, fun _ _ => rfl, ?_⟩; with_reducible refine hK _ ?_; clear hK K)
      (with_reducible refine wpQuiet_yes ?_ ?_; (focus (kernel_rfl)); intro K hK; go_simp; refine ⟨_, fun _ _ => rfl, ?_⟩; with_reducible refine hK _ ?_; clear hK K)
      (with_reducible refine wpQuiet_yes ?_ ?_; (focus (kernel_rfl)); intro K hK; go_simp; refine ⟨_, fun _ _ => rfl, ?_⟩; with_reducible refine hK _ ?_; clear hK K)
      (with_reducible refine wpQuiet_yes ?_ ?_; (focus (kernel_rfl)); intro K hK; go_simp; refine ⟨(.slice none 0 0), ?_, ?_⟩; rotate_left; with_reducible refine hK _ ?_; clear hK K; rotate_left)
      · intro w' hw
        simp only [HFr.out w' hw, go_sem, Result.andThen, and_self]
      (with_reducible refine wpQuiet_yes ?_ ?_; (focus (kernel_rfl)); intro K hK; go_simp; refine ⟨_, fun _ _ => rfl, ?_⟩; with_reducible refine hK _ ?_; clear hK K)
      (with_reducible refine wpQuiet_yes ?_ ?_; (focus (kernel_rfl)); intro K hK; go_simp; refine ⟨(.bool false), ?_, ?_⟩; rotate_left; with_reducible refine hK _ ?_; clear hK K; rotate_left)
      · intro w' hw
        simp
      (with_reducible refine wpQuiet_yes ?_ ?_; (focus (kernel_rfl)); intro K hK; go_simp; refine ⟨_, fun _ _ => rfl, ?_⟩; with_reducible refine hK _ ?_; clear hK K)
      iterate 11 (with_reducible refine wpQuiet_no ?_ ?_; (focus (kernel_rfl)); intro K hK; go_simp; with_reducible refine hK _ ?_; clear hK K)
      (with_reducible refine wpQuiet_yes ?_ ?_; (focus (kernel_rfl)); intro K hK; go_simp; refine ⟨_, fun _ _ => rfl, ?_⟩; with_reducible refine hK _ ?_; clear hK K)
      (with_reducible refine wpQuiet_yes ?_ ?_; (focus (kernel_rfl)); intro K hK; go_simp; refine ⟨_, fun _ _ => rfl, ?_⟩; with_reducible refine hK _ ?_; clear hK K)
      refine wpQuiet_nil fun w3 hb3 => ?_
      have hB3 : Below w.heap.size w w3 := HB0.out.trans ((HB2.out.trans (hb3.mono HB2.out.size)).mono HB0.out.size)
      have hT3 : TAt w3 w.heap.size 0 x := (HT.out.below HB2.out hn1).below hb3 (Nat.lt_of_lt_of_le hn1 HB2.out.size)
      have A0 : ASt w B S w.heap.size (.slice none 0 0) (.slice none 0 0) (.slice none 0 0) [] x w3 :=
        ⟨HMO.out.below hB3, Row.nil _ _, by simp [Value.ownBlock], Kept.of_below hB3, .inl rfl, hT3, by have := hb3.size; have := HB2.out.size; omega, Nat.le_refl _, ssz, hB, by simp [Value.ownBlock]⟩
      have hL1 : Below w3.heap.size w3 (w3.alloc (.cells #[] 87)) := Below.alloc (Below.refl _ _) (Nat.le_refl _) _
      have HA1 := Lib.hid (A0.on hL1)
      have HR1 := Lib.hid (Row.lit0 w3 w3.heap.size (Nat.le_refl _))
      obtain ⟨s0, sf, _⟩ := HA1.out.mo
      clear hB3 hT3 A0 HFr HF HB2 HB0 HT hb3
      simp only [Exit.then]
      go_wp2_with (at_builtin; refine wpList_append_none rfl _ _ 23 87 i0 rfl Try.underlying23 hi ⟨w3.heap.size, 0, none⟩ rfl rfl ?_)
      obtain ⟨W4, hW4⟩ : ∃ W, W = w3.alloc (.cells #[] 87) := ⟨_, rfl⟩
      have hsz4 : W4.heap.size = w3.heap.size + 1 := by rw [hW4]; simp
      obtain ⟨g8, hg8⟩ : ∃ g, g = w3.heap.size := ⟨_, rfl⟩
      rw [← hg8] at HR1 hsz4 ⊢
      rw [← hW4] at HR1 HA1 s0 sf ⊢
      have hg84 : g8 < W4.heap.size := by omega
      clear hW4 hL1 hg8 hsz4
      obtain ⟨t0, t1, t2, t3⟩ := HA1.out.bx
      simp only [Nat.zero_add] at t0 t1 t2 t3
      have hBW : B ≤ W4.heap.size := by have := HA1.out.hB; have := HA1.out.hn; have := HA1.out.n1; omega
      have hn3 := HA1.out.n1
      have b12 : ∀ o, Below W4.heap.size W4 (W4.alloc o).drew := fun o => Below.drew (Below.alloc (Below.refl _ _) (Nat.le_refl _) _)
      have HSK := Lib.hid (show ∀ o, ((W4.alloc o).drew.cell? ⟨S, 0, none⟩ = some (.slice none 0 0) ∧ (W4.alloc o).drew.cell? ⟨w.heap.size, 0, none⟩ = some (.int .i64 x.a) ∧ (W4.alloc o).drew.cell? ⟨w.heap.size, 1, none⟩ = some (.int .i64 x.b) ∧ (W4.alloc o).drew.cell? ⟨w.heap.size, 2, none⟩ = some (.int .i64 x.c) ∧ (W4.alloc o).drew.cell? ⟨w.heap.size, 3, none⟩ = some (.int .i64 x.t)) from fun o => by
        obtain ⟨q0, q1, q2, q3⟩ := (HA1.out.on (b12 o)).bx
        exact ⟨(HA1.out.on (b12 o)).mo.c, q0, q1, q2, q3⟩)
      have HA12 := Lib.hid (HA1.out.on (b12 (Obj.cells #[.int .i64 x.a, .int .i64 x.b, .int .i64 x.c, .int .i64 x.t] 87)))
      have hB12 : B ≤ ((W4.alloc (Obj.cells #[.int .i64 x.a, .int .i64 x.b, .int .i64 x.c, .int .i64 x.t] 87)).drew).heap.size := Nat.le_trans hBW (b12 _).size
      clear b12 HR1 HA1
      go_wp2_with fail
      refine wp_region_seq [(0, true), (1, true), (2, true), (3, true), (4, true), (5, true), (6, true), (7, true), (10, true), (8, false), (9, false), (11, false), (12, true), (13, true)] (fun w' => w'.cell? ⟨S, 0, none⟩ = some (.slice none 0 0) ∧ w'.cell? ⟨w.heap.size, 0, none⟩ = some (.int .i64 x.a) ∧ w'.cell? ⟨w.heap.size, 1, none⟩ = some (.int .i64 x.b) ∧ w'.cell? ⟨w.heap.size, 2, none⟩ = some (.int .i64 x.c) ∧ w'.cell? ⟨w.heap.size, 3, none⟩ = some (.int .i64 x.t)) (by kernel_rfl) (by kernel_rfl) rfl (by intro c a d v w h; cases d <;> exact h) ⟨s0, t0, t1, t2, t3⟩ ?_
      iterate 9 (refine wpSeq_take (v := ?_) (List.getElem?_toArray.trans rfl) ?_ ?_; rotate_left; (intro w' hSw; (try dsimp only at hSw); go_simp; (try with_reducible rfl)); (try simp only [Act.put, List.setIfInBounds_toArray, List.set_cons_zero, List.set_cons_succ]))
      refine wpSeq_do (List.getElem?_toArray.trans rfl) (fun K hK => ?_)
      go_simp
      refine hK _ _ (HSK.out _) ?_
      clear hK K
      refine wpSeq_do (List.getElem?_toArray.trans rfl) (fun K hK => ?_)
      refine wp_append_lies _ _ _ 23 rfl B 87 i0 (.agg #[.int .i64 0, .int .i64 0, .int .i64 0, .int .i64 0]) 4 32 Try.underlying23 hi hz0 hz1 hz2 rfl (by decide) (.slice none 0 0) 0 [] (by simp [Act.eval]) HA12.out.row _ 1 1 [.int .i64 x.a, .int .i64 x.b, .int .i64 x.c, .int .i64 x.t] (by simp [Act.eval]; rfl) rfl (by intro j u hj; match j, hj with | 0, hj => (simp at hj; subst hj; simp [Addr.add, go_sem]) | 1, hj => (simp at hj; subst hj; simp [Addr.add, go_sem]) | 2, hj => (simp at hj; subst hj; simp [Addr.add, go_sem]) | 3, hj => (simp at hj; subst hj; simp [Addr.add, go_sem])) (by intro u hu; simp at hu; rcases hu with rfl | rfl | rfl | rfl <;> rfl) (by omega) (by unfold maxLen; omega) (by omega) hB12 _ rfl ?_
      intro gv cv w5 hown hgrow hat _
      have A13 := (HA12.out.app (v' := .slice (some ⟨gv, 0, none⟩) (0 + 1) cv) (R' := [x]) (by unfold Row; rw [flat_one]; exact hown) hgrow (by
        rcases hat with e | e
        · exact .inl e.symm
        · exact .inr (by rw [e]; rfl)))
      obtain ⟨q0, q1, q2, q3⟩ := A13.bx
      refine hK _ _ ⟨A13.mo.c, q0, q1, q2, q3⟩ ?_
      clear hK K
      simp only [Act.put, List.setIfInBounds_toArray, List.set_cons_zero, List.set_cons_succ]
      have hB5 : B ≤ w5.heap.size := Nat.le_trans hB12 hgrow.size
      refine wpSeq_do (List.getElem?_toArray.trans rfl) (fun K hK => ?_)
      refine wp_app_at _ _ 23 rfl B 87 i0 (.agg #[.int .i64 0, .int .i64 0, .int .i64 0, .int .i64 0]) 4 32 Try.underlying23 hi hz0 hz1 hz2 rfl (by decide) (.slice (some ⟨gv, 0, none⟩) (0 + 1) cv) 1 (flat [x]) (by simp [Act.eval]) A13.row ⟨g8, 0, none⟩ 0 0 [] (by simp [Act.eval]) rfl (by intro j u hj; simp at hj) (by intro u hu; cases hu) (by unfold maxLen; omega) (by omega) (by omega) ?_
      intro v9 w9 hown9 hgrow9 hnil9 hat9
      have A9 := (A13.app (R' := [x]) (by unfold Row; simpa using hown9) hgrow9 hat9)
      obtain ⟨g9, n9, c9, rfl⟩ : ∃ g n c, v9 = .slice (some ⟨g, 0, none⟩) n c := by
        rcases A9.row.shape with ⟨h1, _⟩ | ⟨g', c', h1, _⟩
        · exact absurd (hnil9.1 h1).1 (by simp)
        · exact ⟨g', _, c', h1⟩
      obtain ⟨q0, q1, q2, q3⟩ := A9.bx
      refine hK _ _ ⟨A9.mo.c, q0, q1, q2, q3⟩ ?_
      clear hK K
      iterate 2 (refine wpSeq_take (v := ?_) (List.getElem?_toArray.trans rfl) ?_ ?_; rotate_left; (intro w' hSw; (try dsimp only at hSw); go_simp; (try with_reducible rfl)); (try simp only [Act.put, List.setIfInBounds_toArray, List.set_cons_zero, List.set_cons_succ]))
      refine wpSeq_nil ?_
      simp only [Exit.then]
      have HA9 := Lib.hid A9.store
      clear s0 sf t0 t1 t2 t3
      obtain ⟨s1, sf1, _⟩ := A9.mo
      clear hown hgrow hat A9 A13 hnil9 hown9 hgrow9 hat9
      go_wp2_with fail
      refine bodyPost_ret (v := .tuple #[]) (by simp [results, Try.results192, go_sem]) rfl ?_
      rw [addT_nil HX0.out]; exact HA9.out.done
/-- the model's add, whatever its list is -/
theorem sAdd (B S : Nat) (p : Int) (L : List Trm) (x : Trm) (v : Value) (w : World) (hS : ModW w S v) (hR : Row w B v L) (hl : L.length ≤ 4000) (hs : Srt L) (hv : v.ownBlock ≠ some S) (hp : isP p = true) (he : Els p L) (hx : 0 ≤ x.t ∧ x.t < p) (hB : B ≤ w.heap.size) :
    Calls Try.prog 192 #[.pointer (some ⟨S, 0, none⟩), .int .i64 p, .agg #[.int .i64 x.a, .int .i64 x.b, .int .i64 x.c, .int .i64 x.t]] w (AddTo B S v (addT p x L) w) := by
  rcases hR.shape with ⟨rfl, rfl⟩ | ⟨g, cap, rfl, _⟩
  · exact sAddNil B S p x w hS hB
  · exact sAddSome B S g cap p L x w hS hR hl hs (fun e => hv (by rw [e]; rfl)) hp he hx hB
end Go.Proofs.Ytlidplmpglpkgaa
namespace Go.Proofs.Ytlidplmpglpkgaa
open Go.RowKit
/-- what is appended may be of another named type -/
theorem run_append_tx {P : Program} (w : World) (t tx ty e : TypeId) (i : TypeInfo) (ht : P.underlying t = some (.slice e)) (hx : P.underlying tx = some (.slice e)) (hi : P.info? e = some i) (b : Option Addr) (n c : Nat) (x : Value) :
    (Builtin.append_ #[t, tx] ty #[.slice b n c, x]).run P w = (Builtin.append_ #[t, t] ty #[.slice b n c, x]).run P w := by
  simp [Builtin.append_, run_underlying ht, run_underlying hx, sizeOf, typeInfo, hi]
/-- a copy of a row, appended to a literal without terms -/
theorem app_copy (t tx ty : TypeId) (ht : Try.prog.underlying t = some (.slice 87)) (hx : Try.prog.underlying tx = some (.slice 87)) (W : World) (B : Nat) (v : Value) (L : List Trm) (hR : Row W B v L) (hl : L.length ≤ 4000) :
    ∃ v' w', (Builtin.append_ #[t, tx] ty #[.slice (some ⟨W.heap.size, 0, none⟩) 0 0, v]).run Try.prog (W.alloc (.cells #[] 87)) = .ok v' w' ∧ Row w' W.heap.size v' L ∧ Below W.heap.size W w' := by
  obtain ⟨i0, hi, hz0, hz1, hz2⟩ := info_parts infoT
  rw [run_append_tx _ t tx ty _ i0 ht hx hi]
  have hb : Below W.heap.size W (W.alloc (.cells #[] 87)) := Below.alloc (Below.refl _ _) (Nat.le_refl _) _
  have hL0 := Row.lit0 W W.heap.size (Nat.le_refl _)
  rcases hR.shape with ⟨rfl, rfl⟩ | ⟨g, cap, rfl, _⟩
  · exact ⟨_, _, run_append_none _ t ty _ i0 ht hi _, hL0, hb⟩
  · obtain ⟨v', w', hr, hown, hgrow, _⟩ := run_append_own_at (P := Try.prog) (W.alloc (.cells #[] 87)) W.heap.size t ty 87 i0 (.agg #[.int .i64 0, .int .i64 0, .int .i64 0, .int .i64 0]) 4 32 ht hi hz0 hz1 hz2 rfl (by decide) _ 0 [] hL0 ⟨g, 0, none⟩ L.length cap (flat L) (flat_len L) (World.ownsRow.cells (hR.below hb) rfl) (flat_cell L) (by unfold maxLen; omega) (by omega) (by simp)
    refine ⟨v', w', hr, ?_, hb.trans (hL0.low (by simp) hgrow)⟩
    unfold Row
    simpa using hown
theorem sVal (B : Nat) (p : Int) (hp : isP p = true) (L : List Trm) (v : Value) (w : World) (hR : Row w B v L) (hl : L.length ≤ 4000) :
    Calls Try.prog 200 #[.int .i64 p, v] w fun e w' => e = .returned (.bool (validB p L)) ∧ Below w.heap.size w w' := by
  rcases hR.shape with ⟨rfl, rfl⟩ | ⟨g, cap, rfl, _, hg, _⟩
  · exact (sVal_nil p none 0 w).mono fun e w' ⟨he, hw⟩ => ⟨by rw [he]; simp [validB], by rw [← hw]; exact Below.refl _ _⟩
  · exact sVal_some p hp g 0 cap L w (by omega) hg (fun j hj => by rw [Nat.zero_add]; exact hR.tat rfl hj)
set_option maxRecDepth 100000 in
set_option maxHeartbeats 4000000 in
theorem sTold (B : Nat) (p : Int) (hp : isP p = true) (L : List Trm) (v : Value) (w : World) (hR : Row w B v L) (hl : L.length ≤ 4000) :
    Calls Try.prog 158 #[.int .i64 p, .agg #[v]] w (GivesPB (if validB p L = true then L else []) (validB p L) w) := by
  have HRO := Lib.hid hR
  have HV := Lib.hid (fun (w' : World) (hb : Below w.heap.size w w') => sVal B p hp L v w' (hR.below hb) hl)
  obtain ⟨r, hr⟩ : ∃ r, r = validB p L := ⟨_, rfl⟩
  rw [← hr] at HV ⊢
  clear hr hR
  cases r
  · go_enter Try.func158, Try.ntmps158
    go_upto_region 1 with fail
    obtain ⟨W, hW⟩ : ∃ W, W = w.alloc (Obj.cells #[v] 105) := ⟨_, rfl⟩
    have hb0 : Below w.heap.size w W := by rw [hW]; exact Below.alloc (Below.refl _ _) (Nat.le_refl _) _
    have s0 : W.cell? ⟨w.heap.size, 0, none⟩ = some v := by rw [hW]; simp [go_sem]
    have HB0 := Lib.hid hb0
    rw [← hW]
    clear hW hb0
    go_wp2_with (go_at_call 200; refine (HV.out _ HB0.out).mono ?_; rintro e w2 ⟨rfl, hb2⟩)
    have hb : Below w.heap.size w w2 := HB0.out.trans (hb2.mono HB0.out.size)
    refine bodyPost_ret (v := .tuple #[.slice (some ⟨w2.heap.size, 0, none⟩) 0 0, .bool false]) (by simp [results, Try.results158, go_sem]) rfl ⟨_, rfl, (Row.lit0 w2 w.heap.size hb.size).own (by simp), Below.alloc hb hb.size _⟩
  · go_enter Try.func158, Try.ntmps158
    go_upto_region 1 with fail
    obtain ⟨W, hW⟩ : ∃ W, W = w.alloc (Obj.cells #[v] 105) := ⟨_, rfl⟩
    have hb0 : Below w.heap.size w W := by rw [hW]; exact Below.alloc (Below.refl _ _) (Nat.le_refl _) _
    have s0 : W.cell? ⟨w.heap.size, 0, none⟩ = some v := by rw [hW]; simp [go_sem]
    have hn : w.heap.size < W.heap.size := by rw [hW]; simp
    have HB0 := Lib.hid hb0
    rw [← hW]
    clear hW hb0
    go_upto_region 3 with (go_at_call 200; refine (HV.out _ HB0.out).mono ?_; rintro e w2 ⟨rfl, hb2⟩)
    have hb : Below w.heap.size w w2 := HB0.out.trans (hb2.mono HB0.out.size)
    have s2 : (w2.alloc (Obj.cells #[] 87)).cell? ⟨w.heap.size, 0, none⟩ = some v := by
      rw [World.cell?_alloc_past _ _ _ (show w.heap.size < w2.heap.size from Nat.lt_of_lt_of_le hn hb2.size), hb2.cell (p := ⟨w.heap.size, 0, none⟩) hn]; exact s0
    obtain ⟨v', w', hr, hrow, hbw⟩ := app_copy 24 23 24 Try.underlying24 Try.underlying23 w2 B v L (HRO.out.below hb) hl
    go_wp2_with (at_builtin; refine Lib.wpList_append_run _ rfl _ _ 24 23 rfl _ _ rfl rfl _ _ hr ?_)
    refine bodyPost_ret (v := .tuple #[v', .bool true]) (by simp [results, Try.results158, go_sem]) rfl ⟨_, rfl, ?_, hb.trans (hbw.mono hb.size)⟩
    have ho := (row_base hrow hb.size).own (by omega)
    simpa using ho
end Go.Proofs.Ytlidplmpglpkgaa
namespace Go.Proofs.Ytlidplmpglpkgaa
open Go.RowKit
/-- no term appended -/
theorem run_append_zero {P : Program} (w : World) (t ty e : TypeId) (i : TypeInfo) (ht : P.underlying t = some (.slice e)) (hi : P.info? e = some i) (b : Addr) (a : Option Addr) (c : Nat) :
    (Builtin.append_ #[t, t] ty #[.slice (some b) 0 0, .slice a 0 c]).run P w = .ok (.slice (some b) 0 0) w := by
  cases a <;> simp [Builtin.append_, run_underlying ht, sizeOf, typeInfo, hi, Builtin.lenOf, Builtin.firstCells, storeCells, loadCells, loadCellsFrom]
/-- a copy of a polynomial, appended to a literal without terms -/
theorem app_copyT (t tx ty : TypeId) (ht : Try.prog.underlying t = some (.slice 87)) (hx : Try.prog.underlying tx = some (.slice 87)) (W : World) (v : Value) (L : List Trm) (hT : Trms W v L) (hl : L.length ≤ 4000) :
    ∃ v' w', (Builtin.append_ #[t, tx] ty #[.slice (some ⟨W.heap.size, 0, none⟩) 0 0, v]).run Try.prog (W.alloc (.cells #[] 87)) = .ok v' w' ∧ Row w' W.heap.size v' L ∧ Below W.heap.size W w' := by
  obtain ⟨i0, hi, hz0, hz1, hz2⟩ := info_parts infoT
  rw [run_append_tx _ t tx ty _ i0 ht hx hi]
  have hb : Below W.heap.size W (W.alloc (.cells #[] 87)) := Below.alloc (Below.refl _ _) (Nat.le_refl _) _
  have hL0 := Row.lit0 W W.heap.size (Nat.le_refl _)
  obtain ⟨_, a, cap, rfl, rfl | ⟨g, off, rfl, hg, hc⟩⟩ := hT
  · exact ⟨_, _, run_append_zero _ t ty _ i0 ht hi _ a cap, hL0, hb⟩
  · obtain ⟨v', w', hr, hown, hgrow, _⟩ := run_append_own_at (P := Try.prog) (W.alloc (.cells #[] 87)) W.heap.size t ty 87 i0 (.agg #[.int .i64 0, .int .i64 0, .int .i64 0, .int .i64 0]) 4 32 ht hi hz0 hz1 hz2 rfl (by decide) _ 0 [] hL0 ⟨g, off, none⟩ L.length cap (flat L) (flat_len L) (flatT_read (fun j hj => (hc j hj).below hb hg)) (flat_cell L) (by unfold maxLen; omega) (by omega) (by simp)
    refine ⟨v', w', hr, ?_, hb.trans (hL0.low (by simp) hgrow)⟩
    unfold Row
    simpa using hown
theorem AddTo.low {B S : Nat} {v : Value} {L L' : List Trm} {w w' : World} {e : Ending} (h : AddTo B S v L' w e w') (hR : Row w B v L) (hS : B ≤ S) (hB : B ≤ w.heap.size) : Below B w w' := by
  obtain ⟨_, v', _, _, _, hk, _⟩ := h
  exact ⟨hk.os, hk.tape, hk.output, hk.size, fun k hk2 => hk.block k (by omega) (fun hn => by
    rcases hn with hn | hn
    · omega
    · have := (World.ownsRow.lt hR k hn).1; omega)⟩
theorem addAll_take {p : Int} {M L : List Trm} {k : Nat} (hk : k < M.length) : addT p (M.getD k default) (addAll p (M.take k) L) = addAll p (M.take (k + 1)) L := by
  rw [List.take_succ_eq_append_getElem hk, addAll_snoc]
  simp [List.getD_eq_getElem?_getD, hk]
theorem sum_facts {p : Int} {L M : List Trm} (hp : isP p = true) (hL : validB p L = true) (hM : validB p M = true) (k : Nat) : Srt (addAll p (M.take k) L) ∧ Els p (addAll p (M.take k) L) ∧ (addAll p (M.take k) L).length ≤ 120 := by
  have hb := isP_bd hp
  refine ⟨addAll_srt _ _ (validB_srt hL), addAll_els (by omega) _ _ (fun x hx => ?_) (validB_els hL), ?_⟩
  · have := validB_els hM x (List.mem_of_mem_take hx)
    omega
  · have := addAll_len (p := p) (M.take k) L
    have h1 := validB_len hL
    have h2 := validB_len hM
    simp only [List.length_take] at this
    omega
set_option maxRecDepth 100000 in
set_option maxHeartbeats 8000000 in
theorem sSum (p : Int) (fv : Value) (a : Option Addr) (cap : Nat) (L M : List Trm) (w : World) (hp : isP p = true) (hL : Trms w fv L) (hM : Trms w (.slice a M.length cap) M) (hVL : validB p L = true) (hVM : validB p M = true) :
    Calls Try.prog 221 #[.int .i64 p, fv, .slice a M.length cap] w fun e w' => ∃ v', e = .returned (.agg #[v']) ∧ Row w' w.heap.size v' (addAll p M L) ∧ Below w.heap.size w w' := by
  have HP := Lib.hid hp
  have HL := Lib.hid hL
  have HM := Lib.hid hM
  have HVL := Lib.hid hVL
  have HVM := Lib.hid hVM
  have hml := validB_len hVM
  clear hp hL hM hVL hVM
  go_enter Try.func221, Try.ntmps221
  go_upto_region 1 with fail
  obtain ⟨W, hW⟩ : ∃ W, W = w.alloc (Obj.cells #[.slice none 0 0] 105) := ⟨_, rfl⟩
  have hb0 : Below w.heap.size w W := by rw [hW]; exact Below.alloc (Below.refl _ _) (Nat.le_refl _) _
  have s0 : W.cell? ⟨w.heap.size, 0, none⟩ = some (.slice none 0 0) ∧ W.frozen? ⟨w.heap.size, 0, none⟩ = false ∧ w.heap.size < W.heap.size := by rw [hW]; exact ⟨by simp [go_sem], World.frozen?_alloc_at _ _ _ 0 (by simp), by simp⟩
  have HS0 := Lib.hid s0
  have HB0 := Lib.hid hb0
  rw [← hW]
  clear hW hb0 s0
  obtain ⟨v1, w2, hr, hrow, hbw⟩ := app_copyT 23 24 23 Try.underlying23 Try.underlying24 W fv L (HL.out.below HB0.out) (by have := validB_len HVL.out; omega)
  obtain ⟨a1, c1, rfl⟩ : ∃ a c, v1 = .slice a L.length c := by
    rcases hrow.shape with ⟨rfl, rfl⟩ | ⟨g, c, rfl, _⟩
    · exact ⟨none, 0, rfl⟩
    · exact ⟨_, c, rfl⟩
  go_upto_region 2 with (at_builtin; refine Lib.wpList_append_run _ rfl _ _ 23 24 rfl _ _ rfl rfl _ _ hr ?_)
  obtain ⟨W2, hW2⟩ : ∃ W, W = w2.alloc (Obj.cells #[.slice a1 L.length c1] 105) := ⟨_, rfl⟩
  obtain ⟨S, hSe⟩ : ∃ S, S = w2.heap.size := ⟨_, rfl⟩
  have hv1 : Value.ownBlock (.slice a1 L.length c1) ≠ some w2.heap.size := fun e => by have := (World.ownsRow.lt hrow _ e).2; omega
  have HW := Lib.hid (show ModW W2 S (.slice a1 L.length c1) ∧ Row W2 W.heap.size (.slice a1 L.length c1) (addAll p (M.take 0) L) ∧ Value.ownBlock (.slice a1 L.length c1) ≠ some S ∧ Below W.heap.size W W2 by
    have hb2 : Below w2.heap.size w2 W2 := by rw [hW2]; exact Below.alloc (Below.refl _ _) (Nat.le_refl _) _
    refine ⟨?_, hrow.below hb2, by rw [hSe]; exact hv1, hbw.trans (hb2.mono hbw.size)⟩
    rw [hW2, hSe]
    exact ⟨by simp [go_sem], World.frozen?_alloc_at _ _ _ 0 rfl, by simp⟩)
  have hSW : W.heap.size ≤ S := by rw [hSe]; exact hbw.size
  rw [← hW2, ← hSe]
  clear hW2 hSe hv1 hr hrow hbw
  go_wp2_with fail
  go_loopw [16] (fun i wr => ∃ (k : Nat) (v : Value), k ≤ M.length ∧ i = .int .i64 k ∧ ModW wr S v ∧ Row wr W.heap.size v (addAll p (M.take k) L) ∧ v.ownBlock ≠ some S ∧ Below W.heap.size W wr) (fun i _ => M.length - (intOf i).toNat)
  case atStart => exact ⟨0, _, by omega, rfl, HW.out⟩
  case round =>
    clear HW
    obtain ⟨k, v, hk, rfl, hS, hR, hv, hb⟩ := hrel
    by_cases hlt : k < M.length
    · have hltp : (k : Int) < (M.length : Int) := by omega
      have hk0 : (0 : Int) ≤ (k : Int) := by omega
      obtain ⟨x, hx⟩ : ∃ x, x = M.getD k default := ⟨_, rfl⟩
      have hel := validB_el HVM.out hlt hx
      obtain ⟨g, off, rfl, hg, hc⟩ : ∃ g off, a = some ⟨g, off, none⟩ ∧ g < w.heap.size ∧ ∀ j : Nat, j < M.length → TAt w g (off + j * 4) (M.getD j default) := by
        obtain ⟨_, a', cap', he, h⟩ := HM.out
        injection he with e1 e2 e3
        subst e1
        rcases h with h | h
        · rw [h] at hlt; simp at hlt
        · exact h
      obtain ⟨a0, a1', a2, a3⟩ := ((hc k hlt).below HB0.out hg).below hb (Nat.lt_of_lt_of_le hg HB0.out.size)
      rw [← hx] at a0 a1' a2 a3
      have HXK := Lib.hid (show addT p x (addAll p (M.take k) L) = addAll p (M.take (k + 1)) L by rw [hx, addAll_take hlt])
      have HS := Lib.hid hS
      have HR := Lib.hid hR
      have HV2 := Lib.hid hv
      have Hb := Lib.hid hb
      have Hr := Lib.hid (Below.alloc (Below.refl wr.heap.size wr) (Nat.le_refl _) (Obj.cells #[.int .i64 x.a, .int .i64 x.b, .int .i64 x.c, .int .i64 x.t] 87))
      have H3 := Lib.hid (Hb.out.trans (Hr.out.mono Hb.out.size))
      clear hx hS hR hv hb hc
      go_wp2_with fail
      have hf := sum_facts HP.out HVL.out HVM.out k
      refine (sAdd W.heap.size S p (addAll p (M.take k) L) x v _ (HS.out.below Hr.out) (HR.out.below Hr.out) (by omega) hf.1 HV2.out HP.out hf.2.1 (by omega) H3.out.size).mono ?_
      rintro e w4 hP4
      have hlow := hP4.low (HR.out.below Hr.out) hSW H3.out.size
      obtain ⟨rfl, v', hS', hR', hv', _, _⟩ := hP4
      rw [HXK.out] at hR'
      have HQ := Lib.hid (And.intro hS' (And.intro hR' (And.intro hv' (H3.out.trans hlow))))
      clear hS' hR' hv' hlow hf
      go_wp2_with fail
      go_roundw
      case rel => exact ⟨k + 1, v', by omega, by go_num, HQ.out⟩
      case measure => simp [intOf]; omega
    · have hkl : k = M.length := by omega
      subst hkl
      rw [List.take_length] at hR
      obtain ⟨q0, q1, q2⟩ := HS0.out
      have r0 : wr.cell? ⟨w.heap.size, 0, none⟩ = some (.slice none 0 0) := by rw [hb.cell (p := ⟨w.heap.size, 0, none⟩) q2]; exact q0
      have r1 : wr.frozen? ⟨w.heap.size, 0, none⟩ = false := by rw [hb.frozen (p := ⟨w.heap.size, 0, none⟩) q2]; exact q1
      obtain ⟨s0, sf, _⟩ := hS
      obtain ⟨a2, c2, rfl⟩ : ∃ a c, v = .slice a (addAll p M L).length c := by
        rcases hR.shape with ⟨rfl, h⟩ | ⟨g, c, rfl, _⟩
        · exact ⟨none, 0, by rw [h]; rfl⟩
        · exact ⟨_, c, rfl⟩
      have HQ := Lib.hid (show Row (wr.setCell ⟨w.heap.size, 0, none⟩ (.slice a2 (addAll p M L).length c2)) w.heap.size (.slice a2 (addAll p M L).length c2) (addAll p M L) ∧ Below w.heap.size w (wr.setCell ⟨w.heap.size, 0, none⟩ (.slice a2 (addAll p M L).length c2)) from
        ⟨row_base (World.ownsRow.kept (row := some w.heap.size) hR ⟨rfl, rfl, rfl, by simp, fun k hk hne => Below.heap_setCell _ _ _ _ (fun e => hne (by rw [e]))⟩ (.inr (fun e => by have := (World.ownsRow.lt hR _ e).1; omega))) HB0.out.size,
         Below.setCell (HB0.out.trans (hb.mono HB0.out.size)) (Nat.le_refl _) _⟩)
      clear hR hb hv
      go_wp2_with fail
      have hq := World.cell?_setCell_same wr ⟨w.heap.size, 0, none⟩ (.slice a2 (addAll p M L).length c2) r0
      refine bodyPost_ret (v := .agg #[.slice a2 (addAll p M L).length c2]) (by simp [results, Try.results221, go_sem, hq]) rfl ⟨_, rfl, HQ.out⟩
end Go.Proofs.Ytlidplmpglpkgaa
namespace Go.Proofs.Ytlidplmpglpkgaa
open Go.RowKit
/-- a slice of terms and what it holds -/
abbrev VT := Value × List Trm
def vt0 : VT := (.slice none 0 0, [])
def okB (p : Int) (z : VT) : Bool := isP p && validB p z.2
theorem vall_snoc (p : Int) (zs : List VT) (k : Nat) (h : k < zs.length) : (zs.take (k + 1)).all (okB p) = ((zs.take k).all (okB p) && okB p (zs.getD k vt0)) := by
  rw [List.take_succ_eq_append_getElem h, List.all_append]; simp [h]
theorem vall_no (p : Int) (zs : List VT) (k : Nat) (h : k < zs.length) (hn : okB p (zs.getD k vt0) = false) : zs.all (okB p) = false := by
  rw [List.all_eq_false]; exact ⟨zs[k], List.getElem_mem h, by simpa [h] using hn⟩
set_option maxRecDepth 100000 in
set_option maxHeartbeats 4000000 in
theorem sBoth (p : Int) (b off : Nat) (zs : List VT) (w : World) (hl : zs.length ≤ 1000000) (hb : b < w.heap.size)
    (hc : ∀ k, k < zs.length → w.cell? ⟨b, off + k, none⟩ = some (zs.getD k vt0).1) (hT : ∀ k, k < zs.length → Trms w (zs.getD k vt0).1 (zs.getD k vt0).2) :
    Calls Try.prog 98 #[.int .i64 p, .slice (some ⟨b, off, none⟩) zs.length zs.length] w fun e w' => e = .returned (.bool (zs.all (okB p))) ∧ Below w.heap.size w w' := by
  have hC := Lib.hid hc
  have HT := Lib.hid hT
  clear hc hT
  go_enter Try.func98, Try.ntmps98
  go_wp2_with fail
  go_loopw [9] (fun i wr => ∃ k : Nat, k ≤ zs.length ∧ i = .int .i64 k ∧ (zs.take k).all (okB p) = true ∧ Below w.heap.size w wr) (fun i _ => zs.length - (intOf i).toNat)
  case atStart => exact ⟨0, Nat.zero_le _, rfl, by simp, Below.refl _ _⟩
  case round =>
    obtain ⟨k, hk, rfl, hall, hbw⟩ := hrel
    have Hall := Lib.hid hall
    have Hb := Lib.hid hbw
    clear hall
    by_cases hlt : k < zs.length
    · have hltp : (k : Int) < (zs.length : Int) := by omega
      have hk0 : (0 : Int) ≤ (k : Int) := by omega
      have hck : wr.cell? ⟨b, off + k, none⟩ = some (zs.getD k vt0).1 := by rw [hbw.cell (p := ⟨b, off + k, none⟩) hb]; exact hC.out k hlt
      have hz1 := vall_no p zs k hlt
      have hz2 := vall_snoc p zs k hlt
      have hTk := (HT.out k hlt).below hbw
      clear hbw
      generalize zs.getD k vt0 = z at hck hz1 hz2 hTk
      obtain ⟨zv, zl⟩ := z
      dsimp only at hck hTk
      have hV := sPolyValid p zv zl wr hTk
      obtain ⟨h0, a, cap, rfl, h2⟩ := hTk
      have HV := Lib.hid hV
      clear hV h0 h2
      cases hE : okB p (.slice a zl.length cap, zl)
      · have hz := Lib.hid (hz1 hE)
        unfold okB at hE
        dsimp only at hE
        rw [hE] at HV
        clear hz1 hz2 hE
        go_wp2_with (go_at_call 113; refine HV.out.mono ?_; rintro e w2 ⟨rfl, hb2⟩)
        go_ret
        exact ⟨ret_bool hz.out.symm, Hb.out.trans (hb2.mono Hb.out.size)⟩
      · have hz := Lib.hid hz2
        have hE' := Lib.hid hE
        unfold okB at hE
        dsimp only at hE
        rw [hE] at HV
        clear hz1 hz2 hE
        go_wp2_with (go_at_call 113; refine HV.out.mono ?_; rintro e w2 ⟨rfl, hb2⟩)
        have H2 := Lib.hid (Hb.out.trans (hb2.mono Hb.out.size))
        clear hb2
        go_roundw
        case rel => exact ⟨k + 1, by omega, by go_num, by rw [hz.out, Hall.out, hE'.out]; rfl, H2.out⟩
        case measure => simp [intOf]; omega
    · have hkl : ¬ (k : Int) < (zs.length : Int) := by omega
      go_wp2_with fail
      go_ret
      exact ⟨ret_bool (by rw [← Hall.out, List.take_of_length_le (by omega)]), Hb.out⟩
end Go.Proofs.Ytlidplmpglpkgaa
namespace Go.Proofs.Ytlidplmpglpkgaa
open Go.RowKit
theorem ownTrms_mono {w : World} {B B' : Nat} {v : Value} {L : List Trm} (h : OwnTrms w B v L) (hb : B' ≤ B) : OwnTrms w B' v L := by
  obtain ⟨h1, a, cap, hv, h2⟩ := h
  refine ⟨h1, a, cap, hv, ?_⟩
  rcases h2 with h2 | ⟨g, off, ha, h3, h4⟩
  · exact .inl h2
  · exact .inr ⟨g, off, ha, Nat.le_trans hb h3, h4⟩
theorem bothAt (p : Int) (fv gv : Value) (L M : List Trm) (w : World) (hL : Trms w fv L) (hM : Trms w gv M) (r : Bool) (hr : (okB p (fv, L) && okB p (gv, M)) = r) :
    Calls Try.prog 98 #[.int .i64 p, .slice (some ⟨w.heap.size, 0, none⟩) 2 2] (w.alloc (Obj.cells #[fv, gv] 24)) fun e w' => e = .returned (.bool r) ∧ Below w.heap.size w w' := by
  have hb : Below w.heap.size w (w.alloc (Obj.cells #[fv, gv] 24)) := Below.alloc (Below.refl _ _) (Nat.le_refl _) _
  have h := sBoth p w.heap.size 0 [(fv, L), (gv, M)] (w.alloc (Obj.cells #[fv, gv] 24)) (by simp) (by simp)
    (fun k hk => by
      match k, hk with
      | 0, _ => simp
      | 1, _ => simp
      | k + 2, hk => exact absurd hk (by simp))
    (fun k hk => by
      match k, hk with
      | 0, _ => exact hL.below hb
      | 1, _ => exact hM.below hb
      | k + 2, hk => exact absurd hk (by simp))
  refine h.mono fun e w' h => ⟨?_, hb.trans (h.2.mono hb.size)⟩
  rw [h.1, ← hr]
  simp
set_option maxRecDepth 100000 in
set_option maxHeartbeats 4000000 in
theorem sAddPoly_no (p : Int) (fv gv : Value) (L M : List Trm) (w : World) (hL : Trms w fv L) (hM : Trms w gv M) (hr : (okB p (fv, L) && okB p (gv, M)) = false) :
    Calls Try.prog 166 #[.int .i64 p, fv, gv] w (GivesPB [] false w) := by
  have HB := Lib.hid (bothAt p fv gv L M w hL hM false hr)
  clear hr
  obtain ⟨_, a, cap, rfl, _⟩ := hL
  obtain ⟨_, a2, cap2, rfl, _⟩ := hM
  go_enter Try.func166, Try.ntmps166
  go_wp2_with (go_at_call 98; refine HB.out.mono ?_; rintro e w2 ⟨rfl, hb2⟩)
  refine bodyPost_ret (v := .tuple #[.slice (some ⟨w2.heap.size, 0, none⟩) 0 0, .bool false]) (by simp [results, Try.results166, go_sem]) rfl ⟨_, rfl, (Row.lit0 w2 w.heap.size hb2.size).own (by simp), Below.alloc hb2 hb2.size _⟩
set_option maxRecDepth 100000 in
set_option maxHeartbeats 4000000 in
theorem sAddPoly_yes (p : Int) (fv gv : Value) (L M : List Trm) (w : World) (hL : Trms w fv L) (hM : Trms w gv M) (hp : isP p = true) (hVL : validB p L = true) (hVM : validB p M = true) :
    Calls Try.prog 166 #[.int .i64 p, fv, gv] w (GivesPB (if validB p (addAll p M L) = true then addAll p M L else []) (validB p (addAll p M L)) w) := by
  have HB := Lib.hid (bothAt p fv gv L M w hL hM true (by unfold okB; dsimp only; rw [hp, hVL, hVM]; rfl))
  obtain ⟨m0, a2, cap2, rfl, m1⟩ := hM
  have HS := Lib.hid (fun (w' : World) (hb : Below w.heap.size w w') => sSum p fv a2 cap2 L M w' hp (hL.below hb) (Trms.below ⟨m0, a2, cap2, rfl, m1⟩ hb) hVL hVM)
  have HT := Lib.hid (fun (B : Nat) (v : Value) (w' : World) (hR : Row w' B v (addAll p M L)) => sTold B p hp (addAll p M L) v w' hR (by
    have h1 := addAll_len (p := p) M L
    have h2 := validB_len hVL
    have h3 := validB_len hVM
    omega))
  clear m1
  obtain ⟨_, a, cap, rfl, _⟩ := hL
  obtain ⟨R, hR⟩ : ∃ R, R = addAll p M L := ⟨_, rfl⟩
  rw [← hR] at HS HT ⊢
  obtain ⟨b, hb⟩ : ∃ b, b = validB p R := ⟨_, rfl⟩
  rw [← hb] at HT ⊢
  obtain ⟨R2, hR2⟩ : ∃ R2, R2 = (if b = true then R else []) := ⟨_, rfl⟩
  rw [← hR2] at HT ⊢
  clear hR hb hR2 hp hVL hVM
  go_enter Try.func166, Try.ntmps166
  go_wp2_with first
    | (go_at_call 98; refine HB.out.mono ?_; rintro e w2 ⟨rfl, hb2⟩)
    | (go_at_call 221; refine (HS.out _ hb2).mono ?_; rintro e w3 ⟨v3, rfl, hR3, hb3⟩)
    | (go_at_call 158; refine (HT.out _ _ _ hR3).mono ?_; rintro e w4 ⟨v4, rfl, ho4, hb4⟩)
  have h3 := hb2.trans (hb3.mono hb2.size)
  refine bodyPost_ret (v := .tuple #[v4, .bool b]) (by simp [results, Try.results166, go_sem]) rfl ⟨_, rfl, ownTrms_mono ho4 h3.size, h3.trans (hb4.mono h3.size)⟩
end Go.Proofs.Ytlidplmpglpkgaa
namespace Go.Proofs.Ytlidplmpglpkgaa
open Go.RowKit
set_option maxRecDepth 100000 in
set_option maxHeartbeats 4000000 in
theorem iBoth (p : Int) (b off : Nat) (zs : List VT) (w : World) (hl : zs.length ≤ 1000000) (hb : b < w.heap.size)
    (hc : ∀ k, k < zs.length → w.cell? ⟨b, off + k, none⟩ = some (zs.getD k vt0).1) (hT : ∀ k, k < zs.length → Trms w (zs.getD k vt0).1 (zs.getD k vt0).2) :
    Calls Try.prog 109 #[.int .i64 p, .slice (some ⟨b, off, none⟩) zs.length zs.length] w fun e w' => e = .returned (.bool (zs.all (okB p))) ∧ Below w.heap.size w w' := by
  have hC := Lib.hid hc
  have HT := Lib.hid hT
  clear hc hT
  go_enter Try.func109, Try.ntmps109
  go_wp2_with fail
  go_loopw [9] (fun i wr => ∃ k : Nat, k ≤ zs.length ∧ i = .int .i64 k ∧ (zs.take k).all (okB p) = true ∧ Below w.heap.size w wr) (fun i _ => zs.length - (intOf i).toNat)
  case atStart => exact ⟨0, Nat.zero_le _, rfl, by simp, Below.refl _ _⟩
  case round =>
    obtain ⟨k, hk, rfl, hall, hbw⟩ := hrel
    have Hall := Lib.hid hall
    have Hb := Lib.hid hbw
    clear hall
    by_cases hlt : k < zs.length
    · have hltp : (k : Int) < (zs.length : Int) := by omega
      have hk0 : (0 : Int) ≤ (k : Int) := by omega
      have hck : wr.cell? ⟨b, off + k, none⟩ = some (zs.getD k vt0).1 := by rw [hbw.cell (p := ⟨b, off + k, none⟩) hb]; exact hC.out k hlt
      have hz1 := vall_no p zs k hlt
      have hz2 := vall_snoc p zs k hlt
      have hTk := (HT.out k hlt).below hbw
      clear hbw
      generalize zs.getD k vt0 = z at hck hz1 hz2 hTk
      obtain ⟨zv, zl⟩ := z
      dsimp only at hck hTk
      have hV := iPolyValid p zv zl wr hTk
      obtain ⟨h0, a, cap, rfl, h2⟩ := hTk
      have HV := Lib.hid hV
      clear hV h0 h2
      cases hE : okB p (.slice a zl.length cap, zl)
      · have hz := Lib.hid (hz1 hE)
        unfold okB at hE
        dsimp only at hE
        rw [hE] at HV
        clear hz1 hz2 hE
        go_wp2_with (go_at_call 20; refine HV.out.mono ?_; rintro e w2 ⟨rfl, hb2⟩)
        go_ret
        exact ⟨ret_bool hz.out.symm, Hb.out.trans (hb2.mono Hb.out.size)⟩
      · have hz := Lib.hid hz2
        have hE' := Lib.hid hE
        unfold okB at hE
        dsimp only at hE
        rw [hE] at HV
        clear hz1 hz2 hE
        go_wp2_with (go_at_call 20; refine HV.out.mono ?_; rintro e w2 ⟨rfl, hb2⟩)
        have H2 := Lib.hid (Hb.out.trans (hb2.mono Hb.out.size))
        clear hb2
        go_roundw
        case rel => exact ⟨k + 1, by omega, by go_num, by rw [hz.out, Hall.out, hE'.out]; rfl, H2.out⟩
        case measure => simp [intOf]; omega
    · have hkl : ¬ (k : Int) < (zs.length : Int) := by omega
      go_wp2_with fail
      go_ret
      exact ⟨ret_bool (by rw [← Hall.out, List.take_of_length_le (by omega)]), Hb.out⟩
theorem iBothAt (p : Int) (fv gv : Value) (L M : List Trm) (w : World) (hL : Trms w fv L) (hM : Trms w gv M) (r : Bool) (hr : (okB p (fv, L) && okB p (gv, M)) = r) :
    Calls Try.prog 109 #[.int .i64 p, .slice (some ⟨w.heap.size, 0, none⟩) 2 2] (w.alloc (Obj.cells #[fv, gv] 24)) fun e w' => e = .returned (.bool r) ∧ Below w.heap.size w w' := by
  have hb : Below w.heap.size w (w.alloc (Obj.cells #[fv, gv] 24)) := Below.alloc (Below.refl _ _) (Nat.le_refl _) _
  have h := iBoth p w.heap.size 0 [(fv, L), (gv, M)] (w.alloc (Obj.cells #[fv, gv] 24)) (by simp) (by simp)
    (fun k hk => by
      match k, hk with
      | 0, _ => simp
      | 1, _ => simp
      | k + 2, hk => exact absurd hk (by simp))
    (fun k hk => by
      match k, hk with
      | 0, _ => exact hL.below hb
      | 1, _ => exact hM.below hb
      | k + 2, hk => exact absurd hk (by simp))
  refine h.mono fun e w' h => ⟨?_, hb.trans (h.2.mono hb.size)⟩
  rw [h.1, ← hr]
  simp
theorem addAll_self {p : Int} {L : List Trm} (hs : Srt L) (he : Els p L) : ∀ k, k ≤ L.length → addAll p (L.take k) [] = L.take k
  | 0, _ => by simp [addAll]
  | k + 1, h => by
    have hkl : k < L.length := by omega
    rw [List.take_succ_eq_append_getElem hkl, addAll_snoc, addAll_self hs he k (by omega), addT_end ?_ ?_]
    · intro y hy
      obtain ⟨j, hj, rfl⟩ := List.getElem_of_mem hy
      simp only [List.length_take] at hj
      rw [List.getElem_take]
      exact List.pairwise_iff_getElem.1 hs j k (by omega) hkl (by omega)
    · have := he _ (List.getElem_mem hkl)
      omega
theorem put_facts {p : Int} {L M : List Trm} (hp : isP p = true) (hL : validB p L = true) (hM : validB p M = true) (k : Nat) : Srt (addAll p (M.take k) L) ∧ Els p (addAll p (M.take k) L) ∧ (addAll p (M.take k) L).length ≤ 120 := sum_facts hp hL hM k
set_option maxRecDepth 100000 in
set_option maxHeartbeats 4000000 in
theorem iAddPoly_no (p : Int) (fv gv : Value) (L M : List Trm) (w : World) (hL : Trms w fv L) (hM : Trms w gv M) (hr : (okB p (fv, L) && okB p (gv, M)) = false) :
    Calls Try.prog 23 #[.int .i64 p, fv, gv] w (GivesPB [] false w) := by
  have HB := Lib.hid (iBothAt p fv gv L M w hL hM false hr)
  clear hr
  obtain ⟨_, a, cap, rfl, _⟩ := hL
  obtain ⟨_, a2, cap2, rfl, _⟩ := hM
  go_enter Try.func23, Try.ntmps23
  go_wp2_with (go_at_call 109; refine HB.out.mono ?_; rintro e w2 ⟨rfl, hb2⟩)
  refine bodyPost_ret (v := .tuple #[.slice none 0 0, .bool false]) (by simp [results, Try.results23, go_sem]) rfl ⟨_, rfl, (Row.nil w2 w.heap.size).own (by simp), hb2⟩
set_option maxRecDepth 100000 in
set_option maxHeartbeats 8000000 in
theorem iAddPoly_yes (p : Int) (fv gv : Value) (L M : List Trm) (w : World) (hL : Trms w fv L) (hM : Trms w gv M) (hp : isP p = true) (hVL : validB p L = true) (hVM : validB p M = true) :
    Calls Try.prog 23 #[.int .i64 p, fv, gv] w (GivesPB (if validB p (addAll p M L) = true then addAll p M L else []) (validB p (addAll p M L)) w) := by
  have HB := Lib.hid (iBothAt p fv gv L M w hL hM true (by unfold okB; dsimp only; rw [hp, hVL, hVM]; rfl))
  have HP := Lib.hid hp
  have HVL := Lib.hid hVL
  have HVM := Lib.hid hVM
  have hl1 := validB_len hVL
  have hm1 := validB_len hVM
  obtain ⟨m0, a2, cap2, rfl, m1⟩ := hM
  have HM := Lib.hid (show Trms w (.slice a2 M.length cap2) M from ⟨m0, a2, cap2, rfl, m1⟩)
  obtain ⟨l0, a, cap, rfl, l1⟩ := hL
  have HL := Lib.hid (show Trms w (.slice a L.length cap) L from ⟨l0, a, cap, rfl, l1⟩)
  obtain ⟨R, hRe⟩ : ∃ R, R = addAll p M L := ⟨_, rfl⟩
  rw [← hRe]
  obtain ⟨b, hbe⟩ : ∃ b, b = validB p R := ⟨_, rfl⟩
  rw [← hbe]
  obtain ⟨R2, hR2⟩ : ∃ R2, R2 = (if b = true then R else []) := ⟨_, rfl⟩
  rw [← hR2]
  have HRE := Lib.hid hRe
  have HBE := Lib.hid hbe
  have HR2 := Lib.hid hR2
  clear m0 m1 l0 l1 hp hVL hVM hRe hbe hR2
  go_enter Try.func23, Try.ntmps23
  go_wp2_with (go_at_call 109; refine HB.out.mono ?_; rintro e w2 ⟨rfl, hb2⟩)
  obtain ⟨W, hW⟩ : ∃ W, W = w2.alloc (Obj.cells #[.int .i64 p, .slice none 0 0] 114) := ⟨_, rfl⟩
  have HW := Lib.hid (show SumW W w2.heap.size p (.slice none 0 0) ∧ Row W w.heap.size (.slice none 0 0) (addAll p (L.take 0) []) ∧ Value.ownBlock (.slice none 0 0) ≠ some w2.heap.size ∧ Below w.heap.size w W by
    rw [hW]
    exact ⟨⟨by simp [go_sem], by simp [go_sem], World.frozen?_alloc_at _ _ _ 0 rfl, World.frozen?_alloc_at _ _ _ 1 rfl, by simp⟩, Row.nil _ _, by simp [Value.ownBlock], Below.alloc hb2 hb2.size _⟩)
  rw [← hW]
  obtain ⟨S, hSe⟩ : ∃ S, S = w2.heap.size := ⟨_, rfl⟩
  have hSB : w.heap.size ≤ S := by rw [hSe]; exact hb2.size
  rw [← hSe] at HW ⊢
  clear hSe hW hb2
  go_loopw [23] (fun i wr => ∃ (k : Nat) (v : Value), k ≤ L.length ∧ i = .int .i64 k ∧ SumW wr S p v ∧ Row wr w.heap.size v (addAll p (L.take k) []) ∧ v.ownBlock ≠ some S ∧ Below w.heap.size w wr) (fun i _ => L.length - (intOf i).toNat)
  case atStart => exact ⟨0, _, by omega, rfl, HW.out⟩
  case round =>
    clear HW
    obtain ⟨k, v, hk, rfl, hS, hR, hv, hb⟩ := hrel
    by_cases hlt : k < L.length
    · have hltp : (k : Int) < (L.length : Int) := by omega
      have hk0 : (0 : Int) ≤ (k : Int) := by omega
      obtain ⟨x, hx⟩ : ∃ x, x = L.getD k default := ⟨_, rfl⟩
      have hel := validB_el HVL.out hlt hx
      obtain ⟨g, off, rfl, hg, hc⟩ : ∃ g off, a = some ⟨g, off, none⟩ ∧ g < w.heap.size ∧ ∀ j : Nat, j < L.length → TAt w g (off + j * 4) (L.getD j default) := by
        obtain ⟨_, a', cap', he, h⟩ := HL.out
        injection he with e1 e2 e3
        subst e1
        rcases h with h | h
        · rw [h] at hlt; simp at hlt
        · exact h
      obtain ⟨b0, b1, b2, b3⟩ := (hc k hlt).below hb hg
      rw [← hx] at b0 b1 b2 b3
      have HXK := Lib.hid (show addT p x (addAll p (L.take k) []) = addAll p (L.take (k + 1)) [] by rw [hx, addAll_take hlt])
      have HS := Lib.hid hS
      have HR := Lib.hid hR
      have HV2 := Lib.hid hv
      have Hb := Lib.hid hb
      have Hr := Lib.hid (Below.alloc (Below.refl wr.heap.size wr) (Nat.le_refl _) (Obj.cells #[.int .i64 x.a, .int .i64 x.b, .int .i64 x.c, .int .i64 x.t] 87))
      have H3 := Lib.hid (Hb.out.trans (Hr.out.mono Hb.out.size))
      clear hx hS hR hv hb hc
      go_wp2_with fail
      have hf := (sum_facts HP.out (validB_nil p) HVL.out) k
      refine (iPut w.heap.size S p v (addAll p (L.take k) []) x _ (HS.out.below Hr.out) (HR.out.below Hr.out) H3.out.size HP.out hf.1 hf.2.1 (isE_iff.2 (by omega)) (by omega) HV2.out).mono ?_
      rintro e w4 hP4
      have hlow := hP4.low (HR.out.below Hr.out) hSB H3.out.size
      obtain ⟨rfl, v', hS', hR', hv', _, _⟩ := hP4
      rw [HXK.out] at hR'
      have HQ := Lib.hid (And.intro hS' (And.intro hR' (And.intro hv' (H3.out.trans hlow))))
      clear hS' hR' hv' hlow hf
      go_wp2_with fail
      go_roundw
      case rel => exact ⟨k + 1, v', by omega, by go_num, HQ.out⟩
      case measure => simp [intOf]; omega
    · have hkl : k = L.length := by omega
      subst hkl
      rw [addAll_self (validB_srt HVL.out) (validB_els HVL.out) L.length (Nat.le_refl _), List.take_length] at hR
      have HW := Lib.hid (And.intro hS (And.intro hR (And.intro hv hb)))
      clear hS hR hv hb
      go_wp2_with fail
      go_loopw [32] (fun i wr => ∃ (k : Nat) (v : Value), k ≤ M.length ∧ i = .int .i64 k ∧ SumW wr S p v ∧ Row wr w.heap.size v (addAll p (M.take k) L) ∧ v.ownBlock ≠ some S ∧ Below w.heap.size w wr) (fun i _ => M.length - (intOf i).toNat)
      case atStart => exact ⟨0, _, by omega, rfl, HW.out⟩
      case round =>
        clear HW
        obtain ⟨k, v, hk, rfl, hS, hR, hv, hb⟩ := hrel
        by_cases hlt : k < M.length
        · have hltp : (k : Int) < (M.length : Int) := by omega
          have hk0 : (0 : Int) ≤ (k : Int) := by omega
          obtain ⟨x, hx⟩ : ∃ x, x = M.getD k default := ⟨_, rfl⟩
          have hel := validB_el HVM.out hlt hx
          obtain ⟨g, off, rfl, hg, hc⟩ : ∃ g off, a2 = some ⟨g, off, none⟩ ∧ g < w.heap.size ∧ ∀ j : Nat, j < M.length → TAt w g (off + j * 4) (M.getD j default) := by
            obtain ⟨_, a', cap', he, h⟩ := HM.out
            injection he with e1 e2 e3
            subst e1
            rcases h with h | h
            · rw [h] at hlt; simp at hlt
            · exact h
          obtain ⟨b0, b1, b2, b3⟩ := (hc k hlt).below hb hg
          rw [← hx] at b0 b1 b2 b3
          have HXK := Lib.hid (show addT p x (addAll p (M.take k) L) = addAll p (M.take (k + 1)) L by rw [hx, addAll_take hlt])
          have HS := Lib.hid hS
          have HR := Lib.hid hR
          have HV2 := Lib.hid hv
          have Hb := Lib.hid hb
          have Hr := Lib.hid (Below.alloc (Below.refl wr.heap.size wr) (Nat.le_refl _) (Obj.cells #[.int .i64 x.a, .int .i64 x.b, .int .i64 x.c, .int .i64 x.t] 87))
          have H3 := Lib.hid (Hb.out.trans (Hr.out.mono Hb.out.size))
          clear hx hS hR hv hb hc
          go_wp2_with fail
          have hf := (sum_facts HP.out HVL.out HVM.out) k
          refine (iPut w.heap.size S p v (addAll p (M.take k) L) x _ (HS.out.below Hr.out) (HR.out.below Hr.out) H3.out.size HP.out hf.1 hf.2.1 (isE_iff.2 (by omega)) (by omega) HV2.out).mono ?_
          rintro e w4 hP4
          have hlow := hP4.low (HR.out.below Hr.out) hSB H3.out.size
          obtain ⟨rfl, v', hS', hR', hv', _, _⟩ := hP4
          rw [HXK.out] at hR'
          have HQ := Lib.hid (And.intro hS' (And.intro hR' (And.intro hv' (H3.out.trans hlow))))
          clear hS' hR' hv' hlow hf
          go_wp2_with fail
          go_roundw
          case rel => exact ⟨k + 1, v', by omega, by go_num, HQ.out⟩
          case measure => simp [intOf]; omega
        · have hkl : k = M.length := by omega
          subst hkl
          rw [List.take_length] at hR
          have hf := sum_facts HP.out HVL.out HVM.out M.length
          rw [List.take_length] at hf
          have hown := hR.own (by omega)
          rw [← HRE.out] at hown
          obtain ⟨hl2, ao, co, rfl, _⟩ := hown.trms
          have HO := Lib.hid hown
          have HS := Lib.hid hS
          have Hb := Lib.hid hb
          have HT := Lib.hid (iPolyOf S p ao co R wr hS hown.trms)
          rw [HP.out, ← HBE.out] at HT
          clear hown hS hb hR hf hv
          cases b
          · have hz : R2 = [] := by rw [HR2.out]; rfl
            subst hz
            go_wp2_with (go_at_call 108; refine HT.out.mono ?_; rintro e w5 ⟨rfl, hb5⟩)
            have H5 := Lib.hid (Hb.out.trans (hb5.mono Hb.out.size))
            refine bodyPost_ret (v := .tuple #[.slice none 0 0, .bool false]) (by simp [results, Try.results23, go_sem]) rfl ⟨_, rfl, (Row.nil _ w.heap.size).own (by simp), H5.out⟩
          · have hz : R2 = R := by rw [HR2.out]; rfl
            subst hz
            go_wp2_with (go_at_call 108; refine HT.out.mono ?_; rintro e w5 ⟨rfl, hb5⟩)
            have H5 := Lib.hid (And.intro (HO.out.below hb5) (Hb.out.trans (hb5.mono Hb.out.size)))
            refine bodyPost_ret (v := .tuple #[.slice ao R2.length co, .bool true]) (by simp [results, Try.results23, go_sem]) rfl ⟨_, rfl, H5.out.1, H5.out.2⟩
end Go.Proofs.Ytlidplmpglpkgaa
namespace Go.Proofs.Ytlidplmpglpkgaa
open Go.RowKit
def addOk (p : Int) (L M : List Trm) : Bool := ((isP p && validB p L) && (isP p && validB p M)) && validB p (addAll p M L)
def sumV (p : Int) (L M : List Trm) : List Trm := if addOk p L M = true then addAll p M L else []
theorem addOk_no {p : Int} {L M : List Trm} (h : ((isP p && validB p L) && (isP p && validB p M)) = false) : addOk p L M = false ∧ sumV p L M = [] := by
  have e : addOk p L M = false := by unfold addOk; rw [h]; rfl
  exact ⟨e, by unfold sumV; rw [e]; rfl⟩
theorem addOk_yes {p : Int} {L M : List Trm} (h : ((isP p && validB p L) && (isP p && validB p M)) = true) : addOk p L M = validB p (addAll p M L) ∧ sumV p L M = (if validB p (addAll p M L) = true then addAll p M L else []) := by
  have e : addOk p L M = validB p (addAll p M L) := by unfold addOk; rw [h, Bool.true_and]
  exact ⟨e, by unfold sumV; rw [e]⟩
theorem sAddPoly (p : Int) (f g : Value) (L M : List Trm) (w : World) (hL : Trms w f L) (hM : Trms w g M) :
    Calls Try.prog 166 #[.int .i64 p, f, g] w (GivesPB (sumV p L M) (addOk p L M) w) := by
  cases h : ((isP p && validB p L) && (isP p && validB p M))
  · rw [(addOk_no h).1, (addOk_no h).2]
    exact sAddPoly_no p f g L M w hL hM h
  · rw [(addOk_yes h).1, (addOk_yes h).2]
    simp only [Bool.and_eq_true] at h
    exact sAddPoly_yes p f g L M w hL hM h.1.1 h.1.2 h.2.2
theorem iAddPoly (p : Int) (f g : Value) (L M : List Trm) (w : World) (hL : Trms w f L) (hM : Trms w g M) :
    Calls Try.prog 23 #[.int .i64 p, f, g] w (GivesPB (sumV p L M) (addOk p L M) w) := by
  cases h : ((isP p && validB p L) && (isP p && validB p M))
  · rw [(addOk_no h).1, (addOk_no h).2]
    exact iAddPoly_no p f g L M w hL hM h
  · rw [(addOk_yes h).1, (addOk_yes h).2]
    simp only [Bool.and_eq_true] at h
    exact iAddPoly_yes p f g L M w hL hM h.1.1 h.1.2 h.2.2
end Go.Proofs.Ytlidplmpglpkgaa
namespace Go.Proofs.Ytlidplmpglpkgaa
open Go.RowKit
/-- the product of two terms -/
def mulTT (p : Int) (x y : Trm) : Trm := ⟨x.a + y.a, x.b + y.b, x.c + y.c, x.t * y.t % p⟩
/-- the products of all terms of two polynomials, in order -/
def prodT (p : Int) (L M : List Trm) : List Trm := L.flatMap fun x => M.map (mulTT p x)
/-- the sum of the products of the first k terms with all, and of the next one with the first j -/
def prodK (p : Int) (L M : List Trm) (k j : Nat) : List Trm := addAll p (prodT p (L.take k) M ++ (M.take j).map (mulTT p (L.getD k default))) []
theorem prodK_zero (p : Int) (L M : List Trm) : prodK p L M 0 0 = [] := by simp [prodK, prodT, addAll]
theorem prodK_next {p : Int} {L M : List Trm} {k j : Nat} (hj : j < M.length) : addT p (mulTT p (L.getD k default) (M.getD j default)) (prodK p L M k j) = prodK p L M k (j + 1) := by
  unfold prodK
  rw [List.take_succ_eq_append_getElem hj, List.map_append, List.map_singleton, ← List.append_assoc, addAll_snoc]
  simp [List.getD_eq_getElem?_getD, hj]
theorem prodK_row {p : Int} {L M : List Trm} {k : Nat} (hk : k < L.length) : prodK p L M k M.length = prodK p L M (k + 1) 0 := by
  unfold prodK prodT
  rw [List.take_succ_eq_append_getElem hk, List.flatMap_append, List.take_length]
  simp [List.getD_eq_getElem?_getD, hk]
theorem prodK_end (p : Int) (L M : List Trm) : prodK p L M L.length 0 = addAll p (prodT p L M) [] := by
  unfold prodK
  simp
theorem prodT_len (p : Int) (M : List Trm) : ∀ L : List Trm, (prodT p L M).length = L.length * M.length
  | [] => by simp [prodT]
  | x :: r => by
    have h := prodT_len p M r
    unfold prodT at h ⊢
    rw [List.flatMap_cons, List.length_append, h, List.length_map, List.length_cons, Nat.add_mul]
    omega
theorem prodK_facts {p : Int} {L M : List Trm} (hp : isP p = true) {k j : Nat} (hk : k ≤ L.length) (hj : j ≤ M.length) (hL : L.length ≤ 60) (hM : M.length ≤ 60) : Srt (prodK p L M k j) ∧ Els p (prodK p L M k j) ∧ (prodK p L M k j).length ≤ 3660 := by
  have hb := isP_bd hp
  refine ⟨addAll_srt _ _ List.Pairwise.nil, addAll_els (by omega) _ _ (fun x hx => ?_) (fun y hy => by cases hy), ?_⟩
  · rcases List.mem_append.1 hx with h | h
    · obtain ⟨y, _, h⟩ := List.mem_flatMap.1 h
      obtain ⟨z, _, rfl⟩ := List.mem_map.1 h
      exact emod_bd hb.1
    · obtain ⟨z, _, rfl⟩ := List.mem_map.1 h
      exact emod_bd hb.1
  · have := addAll_len (p := p) (prodT p (L.take k) M ++ (M.take j).map (mulTT p (L.getD k default))) []
    rw [List.length_append, prodT_len, List.length_map, List.length_take, List.length_take, List.length_nil] at this
    have h1 : min k L.length * M.length ≤ 60 * 60 := Nat.mul_le_mul (by omega) hM
    unfold prodK
    omega
set_option maxRecDepth 100000 in
set_option maxHeartbeats 4000000 in
theorem iMulPoly_no (p : Int) (fv gv : Value) (L M : List Trm) (w : World) (hL : Trms w fv L) (hM : Trms w gv M) (hr : (okB p (fv, L) && okB p (gv, M)) = false) :
    Calls Try.prog 70 #[.int .i64 p, fv, gv] w (GivesPB [] false w) := by
  have HB := Lib.hid (iBothAt p fv gv L M w hL hM false hr)
  clear hr
  obtain ⟨_, a, cap, rfl, _⟩ := hL
  obtain ⟨_, a2, cap2, rfl, _⟩ := hM
  go_enter Try.func70, Try.ntmps70
  go_wp2_with (go_at_call 109; refine HB.out.mono ?_; rintro e w2 ⟨rfl, hb2⟩)
  refine bodyPost_ret (v := .tuple #[.slice none 0 0, .bool false]) (by simp [results, Try.results70, go_sem]) rfl ⟨_, rfl, (Row.nil w2 w.heap.size).own (by simp), hb2⟩
set_option maxRecDepth 100000 in
set_option maxHeartbeats 8000000 in
theorem iMulPoly_yes (p : Int) (fv gv : Value) (L M : List Trm) (w : World) (hL : Trms w fv L) (hM : Trms w gv M) (hp : isP p = true) (hVL : validB p L = true) (hVM : validB p M = true) :
    Calls Try.prog 70 #[.int .i64 p, fv, gv] w (GivesPB (if validB p (addAll p (prodT p L M) []) = true then addAll p (prodT p L M) [] else []) (validB p (addAll p (prodT p L M) [])) w) := by
  have HB := Lib.hid (iBothAt p fv gv L M w hL hM true (by unfold okB; dsimp only; rw [hp, hVL, hVM]; rfl))
  have HP := Lib.hid hp
  have HVL := Lib.hid hVL
  have HVM := Lib.hid hVM
  have hl1 := validB_len hVL
  have hm1 := validB_len hVM
  obtain ⟨m0, a2, cap2, rfl, m1⟩ := hM
  have HM := Lib.hid (show Trms w (.slice a2 M.length cap2) M from ⟨m0, a2, cap2, rfl, m1⟩)
  obtain ⟨l0, a, cap, rfl, l1⟩ := hL
  have HL := Lib.hid (show Trms w (.slice a L.length cap) L from ⟨l0, a, cap, rfl, l1⟩)
  obtain ⟨R, hRe⟩ : ∃ R, R = addAll p (prodT p L M) [] := ⟨_, rfl⟩
  rw [← hRe]
  obtain ⟨b, hbe⟩ : ∃ b, b = validB p R := ⟨_, rfl⟩
  rw [← hbe]
  obtain ⟨R2, hR2⟩ : ∃ R2, R2 = (if b = true then R else []) := ⟨_, rfl⟩
  rw [← hR2]
  have HRE := Lib.hid hRe
  have HBE := Lib.hid hbe
  have HR2 := Lib.hid hR2
  clear m0 m1 l0 l1 hp hVL hVM hRe hbe hR2
  go_enter Try.func70, Try.ntmps70
  go_wp2_with (go_at_call 109; refine HB.out.mono ?_; rintro e w2 ⟨rfl, hb2⟩)
  obtain ⟨W, hW⟩ : ∃ W, W = w2.alloc (Obj.cells #[.int .i64 p, .slice none 0 0] 114) := ⟨_, rfl⟩
  have HW := Lib.hid (show SumW W w2.heap.size p (.slice none 0 0) ∧ Row W w.heap.size (.slice none 0 0) (prodK p L M 0 0) ∧ Value.ownBlock (.slice none 0 0) ≠ some w2.heap.size ∧ Below w.heap.size w W by
    rw [hW, prodK_zero]
    exact ⟨⟨by simp [go_sem], by simp [go_sem], World.frozen?_alloc_at _ _ _ 0 rfl, World.frozen?_alloc_at _ _ _ 1 rfl, by simp⟩, Row.nil _ _, by simp [Value.ownBlock], Below.alloc hb2 hb2.size _⟩)
  rw [← hW]
  obtain ⟨S, hSe⟩ : ∃ S, S = w2.heap.size := ⟨_, rfl⟩
  have hSB : w.heap.size ≤ S := by rw [hSe]; exact hb2.size
  rw [← hSe] at HW ⊢
  clear hSe hW hb2
  go_loopw [23] (fun i wr => ∃ (k : Nat) (v : Value), k ≤ L.length ∧ i = .int .i64 k ∧ SumW wr S p v ∧ Row wr w.heap.size v (prodK p L M k 0) ∧ v.ownBlock ≠ some S ∧ Below w.heap.size w wr) (fun i _ => L.length - (intOf i).toNat)
  case atStart => exact ⟨0, _, by omega, rfl, HW.out⟩
  case round =>
    clear HW
    obtain ⟨k, v, hk, rfl, hS, hR, hv, hb⟩ := hrel
    by_cases hlt : k < L.length
    · have hltp : (k : Int) < (L.length : Int) := by omega
      have hk0 : (0 : Int) ≤ (k : Int) := by omega
      obtain ⟨x, hx⟩ : ∃ x, x = L.getD k default := ⟨_, rfl⟩
      have HX := Lib.hid hx
      have HEX := Lib.hid (validB_el HVL.out hlt hx)
      have HPX := Lib.hid (validB_pows HVL.out hlt hx)
      obtain ⟨g, off, rfl, hg, hc⟩ : ∃ g off, a = some ⟨g, off, none⟩ ∧ g < w.heap.size ∧ ∀ j : Nat, j < L.length → TAt w g (off + j * 4) (L.getD j default) := by
        obtain ⟨_, a', cap', he, h⟩ := HL.out
        injection he with e1 e2 e3
        subst e1
        rcases h with h | h
        · rw [h] at hlt; simp at hlt
        · exact h
      obtain ⟨b0, b1, b2, b3⟩ := (hc k hlt).below hb hg
      rw [← hx] at b0 b1 b2 b3
      have hn : v.ownBlock ≠ some wr.heap.size := fun e => by have := (World.ownsRow.lt hR _ e).2; omega
      have HIN := Lib.hid (show ∀ W, W = wr.alloc (Obj.cells #[.int .i64 x.a, .int .i64 x.b, .int .i64 x.c, .int .i64 x.t] 87) → SumW W S p v ∧ Row W w.heap.size v (prodK p L M k 0) ∧ v.ownBlock ≠ some S ∧ v.ownBlock ≠ some wr.heap.size ∧ TAt W wr.heap.size 0 x ∧ wr.heap.size < W.heap.size ∧ Below w.heap.size w W from fun W hW => by
        have hb2 : Below wr.heap.size wr W := by rw [hW]; exact Below.alloc (Below.refl _ _) (Nat.le_refl _) _
        exact ⟨hS.below hb2, hR.below hb2, hv, hn, by rw [hW]; refine ⟨?_, ?_, ?_, ?_⟩ <;> simp [go_sem], by rw [hW]; simp, hb.trans (hb2.mono hb.size)⟩)
      have hSn : S < wr.heap.size := hS.sz
      clear hx hS hR hv hb hc hn
      go_wp2_with fail
      obtain ⟨W1, hW1⟩ : ∃ W, W = wr.alloc (Obj.cells #[.int .i64 x.a, .int .i64 x.b, .int .i64 x.c, .int .i64 x.t] 87) := ⟨_, rfl⟩
      have HI1 := Lib.hid (HIN.out W1 hW1)
      rw [← hW1]
      obtain ⟨n, hne⟩ : ∃ n, n = wr.heap.size := ⟨_, rfl⟩
      rw [← hne] at HI1 hSn ⊢
      clear hW1 hne HIN b0 b1 b2 b3
      go_loopw [29] (fun i wr => ∃ (j : Nat) (v : Value), j ≤ M.length ∧ i = .int .i64 j ∧ SumW wr S p v ∧ Row wr w.heap.size v (prodK p L M k j) ∧ v.ownBlock ≠ some S ∧ v.ownBlock ≠ some n ∧ TAt wr n 0 x ∧ n < wr.heap.size ∧ Below w.heap.size w wr) (fun i _ => M.length - (intOf i).toNat)
      case atStart => exact ⟨0, _, by omega, rfl, HI1.out⟩
      case round =>
        clear HI1
        obtain ⟨j, v, hj, rfl, hS, hR, hv, hvn, hT, hnw, hb⟩ := hrel
        by_cases hjt : j < M.length
        · have hjtp : (j : Int) < (M.length : Int) := by omega
          have hj0 : (0 : Int) ≤ (j : Int) := by omega
          obtain ⟨y, hy⟩ : ∃ y, y = M.getD j default := ⟨_, rfl⟩
          have hely := validB_el HVM.out hjt hy
          have hpy := validB_pows HVM.out hjt hy
          obtain ⟨g2, off2, rfl, hg2, hc⟩ : ∃ g off, a2 = some ⟨g, off, none⟩ ∧ g < w.heap.size ∧ ∀ j : Nat, j < M.length → TAt w g (off + j * 4) (M.getD j default) := by
            obtain ⟨_, a', cap', he, h⟩ := HM.out
            injection he with e1 e2 e3
            subst e1
            rcases h with h | h
            · rw [h] at hjt; simp at hjt
            · exact h
          obtain ⟨b0, b1, b2, b3⟩ := (hc j hjt).below hb hg2
          rw [← hy] at b0 b1 b2 b3
          have hex := HEX.out
          have HMT := Lib.hid (fun w => by
            have := iMulT p x y w HPX.out hpy
            rw [mulV_is HP.out (isE_iff.2 (by omega)) (isE_iff.2 (by omega))] at this
            exact this)
          have HXK := Lib.hid (show addT p (mulTT p x y) (prodK p L M k j) = prodK p L M k (j + 1) by rw [HX.out, hy, prodK_next hjt])
          have HS := Lib.hid hS
          have HR := Lib.hid hR
          have HV2 := Lib.hid hv
          have HV3 := Lib.hid hvn
          have HT := Lib.hid hT
          have Hb := Lib.hid hb
          have Ha := Lib.hid (Below.alloc (Below.refl wr.heap.size wr) (Nat.le_refl _) (Obj.cells #[.int .i64 y.a, .int .i64 y.b, .int .i64 y.c, .int .i64 y.t] 87))
          obtain ⟨t0, t1, t2, t3⟩ := hT
          simp only [Nat.zero_add] at t0 t1 t2 t3
          clear hy hS hR hv hvn hb hc hely hpy hex
          go_wp2_with fail
          refine (HMT.out _).mono ?_
          rintro e w3 ⟨rfl, hb3⟩
          have Hr := Lib.hid (Ha.out.trans (hb3.mono Ha.out.size))
          have H3 := Lib.hid (Hb.out.trans (Hr.out.mono Hb.out.size))
          clear hb3
          go_wp2_with fail
          have hf := prodK_facts (p := p) HP.out (k := k) (j := j) hk hj hl1 hm1
          have hpb := isP_bd HP.out
          have hn3 : n < w3.heap.size := Nat.lt_of_lt_of_le hnw Hr.out.size
          refine (iPut w.heap.size S p v (prodK p L M k j) (mulTT p x y) w3 (HS.out.below Hr.out) (HR.out.below Hr.out) H3.out.size HP.out hf.1 hf.2.1 (isE_iff.2 (emod_bd hpb.1)) (by omega) HV2.out).mono ?_
          rintro e w4 hP4
          have hlow := hP4.low (HR.out.below Hr.out) hSB H3.out.size
          obtain ⟨rfl, v', hS', hR', hv', hk', hd'⟩ := hP4
          rw [HXK.out] at hR'
          have hTn : TAt w4 n 0 x := TAt.kept (HT.out.below Hr.out hnw) hk' hn3 (fun h => by
            rcases h with h | h
            · omega
            · exact HV3.out h)
          have hvn' : v'.ownBlock ≠ some n := by
            rcases hd' with h | ⟨q, h, hq⟩
            · rw [h]; exact HV3.out
            · rw [h]; intro e; injection e with e; omega
          have HQ := Lib.hid (And.intro hS' (And.intro hR' (And.intro hv' (And.intro hvn' (And.intro hTn (And.intro (Nat.lt_of_lt_of_le hn3 hk'.size) (H3.out.trans hlow)))))))
          clear hS' hR' hv' hvn' hTn hlow hf hk' hd' t0 t1 t2 t3
          go_wp2_with fail
          go_roundw
          case rel => exact ⟨j + 1, v', by omega, by go_num, HQ.out⟩
          case measure => simp [intOf]; omega
        · have hjl : j = M.length := by omega
          subst hjl
          rw [prodK_row hlt] at hR
          have HQ := Lib.hid (And.intro hS (And.intro hR (And.intro hv hb)))
          clear hS hR hv hvn hT hb
          go_wp2_with fail
          go_roundw
          case rel => exact ⟨k + 1, v, by omega, by go_num, HQ.out⟩
          case measure => simp [intOf]; omega
    · have hkl : k = L.length := by omega
      subst hkl
      have hf := prodK_facts (p := p) HP.out (k := L.length) (j := 0) (Nat.le_refl _) (Nat.zero_le _) hl1 hm1
      have hown := hR.own (by omega)
      rw [prodK_end, ← HRE.out] at hown
      obtain ⟨hl2, ao, co, rfl, _⟩ := hown.trms
      have HO := Lib.hid hown
      have HS := Lib.hid hS
      have Hb := Lib.hid hb
      have HT := Lib.hid (iPolyOf S p ao co R wr hS hown.trms)
      rw [HP.out, ← HBE.out] at HT
      clear hown hS hb hR hf hv
      cases b
      · have hz : R2 = [] := by rw [HR2.out]; rfl
        subst hz
        go_wp2_with (go_at_call 108; refine HT.out.mono ?_; rintro e w5 ⟨rfl, hb5⟩)
        have H5 := Lib.hid (Hb.out.trans (hb5.mono Hb.out.size))
        refine bodyPost_ret (v := .tuple #[.slice none 0 0, .bool false]) (by simp [results, Try.results70, go_sem]) rfl ⟨_, rfl, (Row.nil _ w.heap.size).own (by simp), H5.out⟩
      · have hz : R2 = R := by rw [HR2.out]; rfl
        subst hz
        go_wp2_with (go_at_call 108; refine HT.out.mono ?_; rintro e w5 ⟨rfl, hb5⟩)
        have H5 := Lib.hid (And.intro (HO.out.below hb5) (Hb.out.trans (hb5.mono Hb.out.size)))
        refine bodyPost_ret (v := .tuple #[.slice ao R2.length co, .bool true]) (by simp [results, Try.results70, go_sem]) rfl ⟨_, rfl, H5.out.1, H5.out.2⟩
end Go.Proofs.Ytlidplmpglpkgaa
namespace Go.Proofs.Ytlidplmpglpkgaa
theorem addAll_eq {p : Int} (hp : 0 < p) {xs ys L M : List Trm} (hL : Srt L) (hM : Srt M) (eL : Els p L) (eM : Els p M) (hx : ∀ x ∈ xs, 0 ≤ x.t ∧ x.t < p) (hy : ∀ x ∈ ys, 0 ≤ x.t ∧ x.t < p)
    (h : ∀ m, Cg p (wS m L + wS m xs) (wS m M + wS m ys)) : addAll p xs L = addAll p ys M :=
  ind_inj (addAll_srt _ _ hL) (addAll_srt _ _ hM) (addAll_els hp _ _ hx eL) (addAll_els hp _ _ hy eM) fun _ _ _ => (wS_addAll _ _ _).trans ((h _).trans (wS_addAll _ _ _).symm)
theorem addAll_is {p : Int} (hp : 0 < p) {xs L M : List Trm} (hL : Srt L) (hM : Srt M) (eL : Els p L) (eM : Els p M) (hx : ∀ x ∈ xs, 0 ≤ x.t ∧ x.t < p)
    (h : ∀ m, Cg p (wS m L + wS m xs) (wS m M)) : addAll p xs L = M :=
  ind_inj (addAll_srt _ _ hL) hM (addAll_els hp _ _ hx eL) eM fun _ _ _ => (wS_addAll _ _ _).trans (h _)
theorem els_in {p : Int} {L : List Trm} (h : Els p L) : ∀ x ∈ L, 0 ≤ x.t ∧ x.t < p := fun x hx => by have := h x hx; omega
/-- the powers in a sum are those of what was added -/
theorem addT_mem {p : Int} {x y : Trm} {L : List Trm} (h : y ∈ addT p x L) : y ∈ L ∨ (x.t ≠ 0 ∧ y.a = x.a ∧ y.b = x.b ∧ y.c = x.c) := by
  unfold addT at h
  split at h
  · exact .inl h
  · rename_i h0
    split at h
    · split at h
      · rcases List.mem_append.1 h with h | h
        · exact .inl (List.mem_of_mem_take h)
        · exact .inl (List.mem_of_mem_drop h)
      · rcases List.mem_append.1 h with h | h
        · exact .inl (List.mem_of_mem_take h)
        · rcases List.mem_cons.1 h with rfl | h
          · exact .inr ⟨h0, rfl, rfl, rfl⟩
          · exact .inl (List.mem_of_mem_drop h)
    · rcases List.mem_append.1 h with h | h
      · exact .inl (List.mem_of_mem_take h)
      · rcases List.mem_cons.1 h with rfl | h
        · exact .inr ⟨h0, rfl, rfl, rfl⟩
        · exact .inl (List.mem_of_mem_drop h)
theorem addAll_mem {p : Int} {y : Trm} : ∀ {xs L : List Trm}, y ∈ addAll p xs L → y ∈ L ∨ ∃ x ∈ xs, x.t ≠ 0 ∧ y.a = x.a ∧ y.b = x.b ∧ y.c = x.c
  | [], _, h => .inl h
  | x :: xs, L, h => by
    rcases addAll_mem (xs := xs) (L := addT p x L) h with h | ⟨z, hz, h⟩
    · rcases addT_mem h with h | h
      · exact .inl h
      · exact .inr ⟨x, List.mem_cons_self .., h⟩
    · exact .inr ⟨z, List.mem_cons_of_mem _ hz, h⟩
theorem ind_mem {p a b c : Int} {L : List Trm} (h : ¬ Cg p (wS (indM a b c) L) 0) : ∃ y ∈ L, y.a = a ∧ y.b = b ∧ y.c = c := by
  apply Classical.byContradiction
  intro hn
  exact h (Cg.of_eq (ind_none fun y hy e => hn ⟨y, hy, e⟩))
/-- the greatest of some numbers of terms, -1 of none -/
def topK (f : Trm → Int) (L : List Trm) : Nat → Int
  | 0 => -1
  | k + 1 => if topK f L k < f (L.getD k default) then f (L.getD k default) else topK f L k
theorem topK_deg (L : List Trm) : ∀ k, degK L k = topK degT L k
  | 0 => rfl
  | k + 1 => by unfold degK topK; rw [topK_deg L k]
theorem topK_in (L : List Trm) (v : Int) : ∀ k, degI L v k = topK (pw v) L k
  | 0 => rfl
  | k + 1 => by unfold degI topK; rw [topK_in L v k]
theorem topK_le {f : Trm → Int} {L : List Trm} {d : Int} (hd : -1 ≤ d) (h : ∀ y ∈ L, f y ≤ d) : ∀ k, k ≤ L.length → topK f L k ≤ d
  | 0, _ => hd
  | k + 1, hk => by
    have ih := topK_le hd h k (by omega)
    unfold topK
    split
    · exact h _ (by simp [List.getD_eq_getElem?_getD, List.getElem?_eq_getElem (show k < L.length by omega)])
    · exact ih
theorem topK_mono {f : Trm → Int} {L : List Trm} {j : Nat} : ∀ k, j < k → f (L.getD j default) ≤ topK f L k
  | 0, h => by omega
  | k + 1, h => by
    by_cases e : j = k
    · subst e
      unfold topK
      split <;> omega
    · have := topK_mono (f := f) (L := L) (j := j) k (by omega)
      unfold topK
      split <;> omega
theorem topK_ge {f : Trm → Int} {L : List Trm} {y : Trm} (h : y ∈ L) : f y ≤ topK f L L.length := by
  obtain ⟨j, hj, rfl⟩ := List.getElem_of_mem h
  have := topK_mono (f := f) (L := L) L.length hj
  simpa [List.getD_eq_getElem?_getD, hj] using this
theorem topK_min (f : Trm → Int) (L : List Trm) : ∀ k, -1 ≤ topK f L k
  | 0 => Int.le_refl _
  | k + 1 => by
    have := topK_min f L k
    unfold topK
    split <;> omega
/-- the one that is reached -/
theorem topK_at {f : Trm → Int} {L : List Trm} : ∀ k, k ≤ L.length → 0 ≤ topK f L k → ∃ y ∈ L, f y = topK f L k
  | 0, _, h => absurd (show (0 : Int) ≤ -1 from h) (by decide)
  | k + 1, hk, h => by
    unfold topK at h ⊢
    split
    · exact ⟨_, by simp [List.getD_eq_getElem?_getD, List.getElem?_eq_getElem (show k < L.length by omega)], rfl⟩
    · rename_i hn
      rw [if_neg hn] at h
      exact topK_at k (by omega) h
theorem validB_mem {p : Int} {L : List Trm} (h : validB p L = true) {y : Trm} (hy : y ∈ L) : (0 ≤ y.a ∧ y.a ≤ 9) ∧ (0 ≤ y.b ∧ y.b ≤ 9) ∧ (0 ≤ y.c ∧ y.c ≤ 9) := by
  obtain ⟨k, hk, rfl⟩ := List.getElem_of_mem hy
  exact validB_pows h hk (x := L[k]) (by simp [List.getD_eq_getElem?_getD, hk])
/-- the powers of a point -/
def mon (x y z : Int) : Int → Int → Int → Int := fun a b c => x ^ a.toNat * y ^ b.toNat * z ^ c.toNat
theorem valT_cg (p x y z : Int) (T : Trm) : Cg p (valT p x y z T) (T.t * mon x y z T.a T.b T.c) := by
  unfold valT mon
  refine (Cg.mod _ _).trans ?_
  refine (Cg.mul ((Cg.mod _ _).trans (Cg.mul ((Cg.mod _ _).trans (Cg.mul (Cg.refl p T.t) (Cg.mod p _))) (Cg.mod p _))) (Cg.mod p _)).trans (Cg.of_eq ?_)
  grind
theorem evK_cg (p x y z : Int) (L : List Trm) : ∀ k, k ≤ L.length → Cg p (evK p x y z L k) (wS (mon x y z) (L.take k))
  | 0, _ => Cg.of_eq (by simp [evK, wS])
  | k + 1, hk => by
    have ih := evK_cg p x y z L k (by omega)
    rw [List.take_succ_eq_append_getElem (show k < L.length by omega), wS_app]
    unfold evK
    refine (Cg.mod _ _).trans (ih.add ?_)
    rw [show L.getD k default = L[k] by simp [List.getD_eq_getElem?_getD, List.getElem?_eq_getElem (show k < L.length by omega)]]
    exact (valT_cg ..).trans (Cg.of_eq (by simp [wS]))
theorem evK_all (p x y z : Int) (L : List Trm) : Cg p (evK p x y z L L.length) (wS (mon x y z) L) := by
  have := evK_cg p x y z L L.length (Nat.le_refl _)
  rwa [List.take_length] at this
/-- the value is known by the sum -/
theorem evK_is {p x y z n : Int} {L : List Trm} (hp : isP p = true) (h : Cg p (wS (mon x y z) L) n) (hn : 0 ≤ n ∧ n < p) : evK p x y z L L.length = n :=
  ((evK_all p x y z L).trans h).eq (evK_bd hp x y z L L.length) hn
theorem scl_wS {p a : Int} {L : List Trm} (m : Int → Int → Int → Int) : Cg p (wS m (sclL p a L)) (a * wS m L) := by
  unfold sclL
  split
  · rename_i h
    rw [h]
    exact Cg.of_eq (by simp [wS])
  · rw [wS_map, wS_sum, ← sumI_mul]
    refine sumI_cg fun x _ => ?_
    unfold sclT
    exact ((Cg.mod p _).mul (Cg.refl _ _)).trans (Cg.of_eq (by grind))
/-- the sum of two polynomials, the other way round -/
theorem add_comm {p : Int} (hp : isP p = true) {L M : List Trm} (hL : validB p L = true) (hM : validB p M = true) : addAll p L M = addAll p M L :=
  have hb := isP_bd hp
  addAll_eq (by omega) (validB_srt hM) (validB_srt hL) (validB_els hM) (validB_els hL) (els_in (validB_els hL)) (els_in (validB_els hM)) fun _ => Cg.of_eq (by omega)
/-- what was added is taken away -/
theorem add_back {p : Int} (hp : isP p = true) {L M : List Trm} (hL : validB p L = true) (hM : validB p M = true) : addAll p (sclL p (p - 1) M) (addAll p M L) = L := by
  have hb := isP_bd hp
  have hs : validB p (sclL p (p - 1) M) = true := scl_valid hp (isE_iff.2 (by omega)) hM
  refine addAll_is (by omega) (addAll_srt _ _ (validB_srt hL)) (validB_srt hL) (addAll_els (by omega) _ _ (els_in (validB_els hM)) (validB_els hL)) (validB_els hL) (els_in (validB_els hs)) fun m => ?_
  refine ((wS_addAll m _ _).add (scl_wS m)).trans ⟨wS m M, ?_⟩
  grind
theorem add_ev {p x y z : Int} (hp : isP p = true) {L M : List Trm} : evK p x y z (addAll p M L) (addAll p M L).length = (evK p x y z L L.length + evK p x y z M M.length) % p := by
  have hb := isP_bd hp
  exact evK_is hp ((wS_addAll _ _ _).trans (((evK_all p x y z L).symm.add (evK_all p x y z M).symm).trans (Cg.mod _ _).symm)) (emod_bd (by omega))
theorem add_top {p : Int} (f : Trm → Int) (hf : ∀ x y : Trm, x.a = y.a → x.b = y.b → x.c = y.c → f x = f y) {L M : List Trm} : topK f (addAll p M L) (addAll p M L).length ≤ max (topK f L L.length) (topK f M M.length) := by
  have h1 := topK_min f L L.length
  have h2 := topK_min f M M.length
  refine topK_le (by omega) (fun y hy => ?_) _ (Nat.le_refl _)
  rcases addAll_mem hy with h | ⟨x, hx, _, e1, e2, e3⟩
  · have := topK_ge (f := f) h
    omega
  · have := topK_ge (f := f) hx
    have := hf y x e1 e2 e3
    omega
theorem degT_eq (x y : Trm) (h1 : x.a = y.a) (h2 : x.b = y.b) (h3 : x.c = y.c) : degT x = degT y := by unfold degT; omega
theorem pw_eq (v : Int) (x y : Trm) (h1 : x.a = y.a) (h2 : x.b = y.b) (h3 : x.c = y.c) : pw v x = pw v y := by
  unfold pw
  repeat' split
  all_goals assumption
/-- products of lists of terms -/
theorem prod_wS {p : Int} (m : Int → Int → Int → Int) (L M : List Trm) : Cg p (wS m (prodT p L M)) (sumI (fun x => sumI (fun y => x.t * y.t * m (x.a + y.a) (x.b + y.b) (x.c + y.c)) M) L) := by
  unfold prodT
  rw [wS_bind]
  refine sumI_cg fun x _ => ?_
  rw [wS_map]
  exact sumI_cg fun y _ => (Cg.mod p _).mul (Cg.refl _ _)
theorem prod_in {p : Int} (hp : 0 < p) {L M : List Trm} : ∀ x ∈ prodT p L M, 0 ≤ x.t ∧ x.t < p := by
  intro x hx
  obtain ⟨y, _, h⟩ := List.mem_flatMap.1 hx
  obtain ⟨z, _, rfl⟩ := List.mem_map.1 h
  exact ⟨Int.emod_nonneg _ (by omega), Int.emod_lt_of_pos _ hp⟩
theorem mul_comm' {p : Int} (hp : isP p = true) {L M : List Trm} : addAll p (prodT p M L) [] = addAll p (prodT p L M) [] := by
  have hb := isP_bd hp
  refine addAll_eq (by omega) List.Pairwise.nil List.Pairwise.nil (fun _ h => by cases h) (fun _ h => by cases h) (prod_in (by omega)) (prod_in (by omega)) fun m => (Cg.refl p _).add ?_
  refine (prod_wS m M L).trans (Cg.trans (Cg.of_eq ?_) (prod_wS m L M).symm)
  rw [sumI_swap]
  exact sumI_congr fun x _ => sumI_congr fun y _ => by rw [Int.mul_comm y.t, Int.add_comm y.a, Int.add_comm y.b, Int.add_comm y.c]
theorem mon_add {x y z a b c d e f : Int} (ha : 0 ≤ a) (hb : 0 ≤ b) (hc : 0 ≤ c) (hd : 0 ≤ d) (he : 0 ≤ e) (hf : 0 ≤ f) : mon x y z (a + d) (b + e) (c + f) = mon x y z a b c * mon x y z d e f := by
  unfold mon
  rw [Int.toNat_add ha hd, Int.toNat_add hb he, Int.toNat_add hc hf, Int.pow_add, Int.pow_add, Int.pow_add]
  grind
theorem mul_ev {p x y z : Int} (hp : isP p = true) {L M : List Trm} (hL : validB p L = true) (hM : validB p M = true) : evK p x y z (addAll p (prodT p L M) []) (addAll p (prodT p L M) []).length = (evK p x y z L L.length * evK p x y z M M.length) % p := by
  have hb := isP_bd hp
  refine evK_is hp ((wS_addAll _ _ _).trans ?_) (emod_bd (by omega))
  refine Cg.trans ?_ (((evK_all p x y z L).symm.mul (evK_all p x y z M).symm).trans (Cg.mod _ _).symm)
  refine ((Cg.refl p _).add (prod_wS _ L M)).trans (Cg.of_eq ?_)
  rw [show wS (mon x y z) [] = 0 from rfl, Int.zero_add, wS_sum, wS_sum, Int.mul_comm, ← sumI_mul]
  refine sumI_congr fun u hu => ?_
  rw [Int.mul_comm, ← sumI_mul]
  refine sumI_congr fun v hv => ?_
  obtain ⟨⟨a0, _⟩, ⟨b0, _⟩, ⟨c0, _⟩⟩ := validB_mem hL hu
  obtain ⟨⟨d0, _⟩, ⟨e0, _⟩, ⟨f0, _⟩⟩ := validB_mem hM hv
  rw [mon_add a0 b0 c0 d0 e0 f0]
  grind
/-- the term that stands first by a weight, and by the order of powers -/
theorem top_one (f : Trm → Int) : ∀ {L : List Trm}, Srt L → L ≠ [] → ∃ x ∈ L, ∀ y ∈ L, f y < f x ∨ (f y = f x ∧ (y = x ∨ bef x y = true))
  | [], _, h => absurd rfl h
  | [x], _, _ => ⟨x, List.mem_cons_self .., fun y hy => .inr (by
    have e : y = x := by simpa using hy
    subst e
    exact ⟨rfl, .inl rfl⟩)⟩
  | x :: z :: r, hs, _ => by
    obtain ⟨u, hu, h⟩ := top_one f (L := z :: r) (List.pairwise_cons.1 hs).2 (by simp)
    have hxu := (List.pairwise_cons.1 hs).1 u hu
    by_cases hle : f u ≤ f x
    · refine ⟨x, List.mem_cons_self .., fun y hy => ?_⟩
      rcases List.mem_cons.1 hy with rfl | hy
      · exact .inr ⟨rfl, .inl rfl⟩
      · have hxy := (List.pairwise_cons.1 hs).1 y hy
        rcases h y hy with h | ⟨h, _⟩
        · exact .inl (by omega)
        · by_cases e : f u = f x
          · exact .inr ⟨by omega, .inr hxy⟩
          · exact .inl (by omega)
    · refine ⟨u, List.mem_cons_of_mem _ hu, fun y hy => ?_⟩
      rcases List.mem_cons.1 hy with rfl | hy
      · exact .inl (by omega)
      · exact h y hy
theorem top_is {f : Trm → Int} {L : List Trm} {x : Trm} (hx : x ∈ L) (h0 : ∀ y ∈ L, 0 ≤ f y) (h : ∀ y ∈ L, f y < f x ∨ (f y = f x ∧ (y = x ∨ bef x y = true))) : topK f L L.length = f x := by
  have h1 := topK_ge (f := f) hx
  have h2 := topK_le (f := f) (L := L) (d := f x) (by have := h0 x hx; omega) (fun y hy => by rcases h y hy with h | h <;> omega) L.length (Nat.le_refl _)
  omega
theorem sumI_one {α : Type} {g : α → Int} {x : α} : ∀ {l : List α}, l.Pairwise (fun u v => u ≠ v) → x ∈ l → (∀ y ∈ l, y ≠ x → g y = 0) → sumI g l = g x
  | [], _, h, _ => by cases h
  | u :: r, hn, hx, h => by
    have hnr := List.pairwise_cons.1 hn
    show g u + sumI g r = g x
    by_cases e : u = x
    · subst e
      rw [show sumI g r = sumI (fun _ => 0) r from sumI_congr fun y hy => h y (List.mem_cons_of_mem _ hy) (fun e => hnr.1 y hy e.symm), sumI_zero]
      omega
    · rcases List.mem_cons.1 hx with rfl | hx
      · exact absurd rfl e
      · rw [h u (List.mem_cons_self ..) e, sumI_one hnr.2 hx fun y hy => h y (List.mem_cons_of_mem _ hy)]
        omega
theorem srt_ne {L : List Trm} (h : Srt L) : L.Pairwise (fun u v => u ≠ v) := h.imp fun {u v} hb e => by subst e; rw [bef_iff] at hb; omega
/-- the first terms of two polynomials make one of the product that does not fall away -/
theorem mul_top {p : Int} (hp : isP p = true) {f : Trm → Int} (hf : ∀ x y : Trm, f (mulTT p x y) = f x + f y) (he : ∀ x y : Trm, x.a = y.a → x.b = y.b → x.c = y.c → f x = f y) {L M : List Trm} (hL : validB p L = true) (hM : validB p M = true)
    (pL : ∀ y ∈ L, 0 ≤ f y) (pM : ∀ y ∈ M, 0 ≤ f y) (nL : L ≠ []) (nM : M ≠ []) :
    topK f (addAll p (prodT p L M) []) (addAll p (prodT p L M) []).length = topK f L L.length + topK f M M.length := by
  have hb := isP_bd hp
  obtain ⟨x, hx, tx⟩ := top_one f (validB_srt hL) nL
  obtain ⟨y, hy, ty⟩ := top_one f (validB_srt hM) nM
  rw [top_is hx pL tx, top_is hy pM ty]
  obtain ⟨H, hH⟩ : ∃ H, H = addAll p (prodT p L M) [] := ⟨_, rfl⟩
  rw [← hH]
  have px := pL x hx
  have py := pM y hy
  have hle : topK f H H.length ≤ f x + f y := by
    refine topK_le (by omega) (fun h hh => ?_) _ (Nat.le_refl _)
    rw [hH] at hh
    rcases addAll_mem hh with h | ⟨z, hz, _, e1, e2, e3⟩
    · cases h
    · obtain ⟨u, hu, h⟩ := List.mem_flatMap.1 hz
      obtain ⟨v, hv, rfl⟩ := List.mem_map.1 h
      rw [he _ _ e1 e2 e3, hf]
      have h1 := tx u hu
      have h2 := ty v hv
      rcases h1 with h1 | h1 <;> rcases h2 with h2 | h2 <;> omega
  have hc : Cg p (wS (indM (x.a + y.a) (x.b + y.b) (x.c + y.c)) H) (x.t * y.t) := by
    rw [hH]
    refine (wS_addAll _ _ _).trans (((Cg.refl p _).add (prod_wS _ L M)).trans (Cg.of_eq ?_))
    rw [show wS (indM (x.a + y.a) (x.b + y.b) (x.c + y.c)) [] = 0 from rfl, Int.zero_add]
    have key : ∀ u ∈ L, ∀ v ∈ M, u.a + v.a = x.a + y.a ∧ u.b + v.b = x.b + y.b ∧ u.c + v.c = x.c + y.c → u = x ∧ v = y := by
      intro u hu v hv ⟨e1, e2, e3⟩
      have e := he (mulTT p u v) (mulTT p x y) e1 e2 e3
      rw [hf, hf] at e
      have h1 := tx u hu
      have h2 := ty v hv
      have f1 : f u = f x := by rcases h1 with h1 | h1 <;> rcases h2 with h2 | h2 <;> omega
      have f2 : f v = f y := by omega
      have h1 : u = x ∨ bef x u = true := by rcases h1 with h1 | h1; omega; exact h1.2
      have h2 : v = y ∨ bef y v = true := by rcases h2 with h2 | h2; omega; exact h2.2
      rcases h1 with h1 | h1
      · rcases h2 with h2 | h2
        · exact ⟨h1, h2⟩
        · subst h1
          rw [bef_iff] at h2
          omega
      · rcases h2 with h2 | h2
        · subst h2
          rw [bef_iff] at h1
          omega
        · rw [bef_iff] at h1 h2
          omega
    rw [sumI_one (x := x) (srt_ne (validB_srt hL)) hx, sumI_one (x := y) (srt_ne (validB_srt hM)) hy]
    · simp [indM]
    · intro v hv hne
      unfold indM
      rw [if_neg, Int.mul_zero]
      intro e
      exact hne (key x hx v hv e).2
    · intro u hu hne
      rw [← sumI_zero M]
      refine sumI_congr fun v hv => ?_
      unfold indM
      rw [if_neg, Int.mul_zero]
      intro e
      exact hne (key u hu v hv e).1
  obtain ⟨h, hh, e1, e2, e3⟩ := ind_mem (p := p) (L := H) (a := x.a + y.a) (b := x.b + y.b) (c := x.c + y.c) (fun h => by
    have h3 := (hc.symm.trans h).emod
    rw [Int.zero_emod] at h3
    exact prime_mul hp (validB_els hL x hx) (validB_els hM y hy) h3)
  have := topK_ge (f := f) hh
  rw [he h (mulTT p x y) e1 e2 e3, hf] at this
  omega
theorem degT_mul (p : Int) (x y : Trm) : degT (mulTT p x y) = degT x + degT y := by unfold degT mulTT; simp only; omega
theorem pw_mul (p v : Int) (x y : Trm) : pw v (mulTT p x y) = pw v x + pw v y := by
  unfold pw mulTT
  repeat' split
  all_goals rfl
theorem mul_nil (p : Int) (L M : List Trm) (h : L = [] ∨ M = []) : addAll p (prodT p L M) [] = [] := by
  rcases h with rfl | rfl
  · rfl
  · have : prodT p L [] = [] := by unfold prodT; simp
    rw [this]
    rfl
end Go.Proofs.Ytlidplmpglpkgaa
namespace Go.Proofs.Ytlidplmpglpkgaa
open Go.RowKit
theorem addOk_is {p : Int} {L M : List Trm} (h : addOk p L M = true) : isP p = true ∧ validB p L = true ∧ validB p M = true ∧ validB p (addAll p M L) = true ∧ sumV p L M = addAll p M L := by
  have e : sumV p L M = addAll p M L := by unfold sumV; rw [if_pos h]
  unfold addOk at h
  simp only [Bool.and_eq_true] at h
  exact ⟨h.1.1.1, h.1.1.2, h.1.2.2, h.2, e⟩
theorem addOk_of {p : Int} {L M : List Trm} (hp : isP p = true) (hL : validB p L = true) (hM : validB p M = true) (hS : validB p (addAll p M L) = true) : addOk p L M = true ∧ sumV p L M = addAll p M L := by
  have e : addOk p L M = true := by unfold addOk; rw [hp, hL, hM, hS]; rfl
  exact ⟨e, by unfold sumV; rw [if_pos e]⟩
/-- all that the law of sums asks -/
structure AddF (p : Int) (L M S N : List Trm) : Prop where
  hp : isP p = true
  tu : sumV p M L = S
  tb : addOk p M L = true
  mi : sclV p (p - 1) M = N
  mb : ((isP p && validB p M) && isE p (p - 1)) = true
  ba : sumV p S N = L
  bb : addOk p S N = true
  vL : validB p L = true
  vM : validB p M = true
  vS : validB p S = true
  ev : ∀ x y z : Int, isE3 p x y z = true → evV p x y z S = addV p (evV p x y z L) (evV p x y z M)
  dg : degV p S ≤ max (degV p L) (degV p M)
theorem addF {p : Int} {L M : List Trm} (h : addOk p L M = true) : ∃ N, AddF p L M (sumV p L M) N := by
  obtain ⟨hp, hL, hM, hS, hs⟩ := addOk_is h
  have hb := isP_bd hp
  have hE : isE p (p - 1) = true := isE_iff.2 (by omega)
  have hN : validB p (sclL p (p - 1) M) = true := scl_valid hp hE hM
  have hc := add_comm (p := p) hp hL hM
  have h1 := addOk_of (p := p) (L := M) (M := L) hp hM hL (by rw [hc]; exact hS)
  have hk := add_back (p := p) hp hL hM
  have h2 := addOk_of (p := p) (L := addAll p M L) (M := sclL p (p - 1) M) hp hS hN (by rw [hk]; exact hL)
  refine ⟨sclL p (p - 1) M, ?_⟩
  rw [hs]
  refine ⟨hp, by rw [h1.2, hc], h1.1, by unfold sclV; rw [hp, hM, hE]; rfl, by rw [hp, hM, hE]; rfl, by rw [h2.2, hk], h2.1, hL, hM, hS, fun x y z he => ?_, ?_⟩
  · have b1 := evK_bd hp x y z L L.length
    have b2 := evK_bd hp x y z M M.length
    unfold evV addV
    rw [hp, hL, hM, hS, he]
    simp only [Bool.and_self, if_true]
    rw [if_pos (isE2_iff.2 ⟨hp, b1, b2⟩), add_ev hp]
  · unfold degV
    rw [hp, hL, hM, hS]
    simp only [Bool.and_self, if_true]
    rw [topK_deg, topK_deg, topK_deg]
    exact add_top degT degT_eq
end Go.Proofs.Ytlidplmpglpkgaa
