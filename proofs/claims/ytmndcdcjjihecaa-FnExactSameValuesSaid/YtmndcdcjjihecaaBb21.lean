/-
  Contracts of the sum of two polynomials, of the model and of the program, and the walk of the exact law of AddPoly. Conditions: none but that the slices read as lists of terms.
  MakePoly, of the model and of the program. Conditions: what the slice holds is known.
  ReducePoly, of the model and of the program, and the walk of its exact law. Conditions: none but that the slice reads as a list of terms.
-/
import Derived.Test.YtmndcdcjjihecaaBb19
import Derived.Lib.AppendZeros
import Derived.Test.YtmndcdcjjihecaaBb20
import Derived.Test.YtmndcdcjjihecaaBb10
import Derived.Test.YtmndcdcjjihecaaBb5
import Derived.Test.YtmndcdcjjihecaaBb13
namespace Go.Proofs.Ytmndcdcjjihecaa
open Go.RowKit
/-- nothing appended to nothing -/
theorem run_append_none {P : Program} (w : World) (t ty e : TypeId) (i : TypeInfo) (ht : P.underlying t = some (.slice e)) (hi : P.info? e = some i) (b : Addr) :
    (Builtin.append_ #[t, t] ty #[.slice (some b) 0 0, .slice none 0 0]).run P w = .ok (.slice (some b) 0 0) w := by
  simp [Builtin.append_, run_underlying ht, sizeOf, typeInfo, hi, Builtin.lenOf, Builtin.firstCells, storeCells]
theorem wpList_append_none {P : Program} {w : World} {ops : Array Oper} {rest : List Oper} {o : Oper} {a : Act} {Q : Exit → Act → World → Prop} (hgd : o.guard = none) (s x : Operand) (t e : TypeId) (i : TypeInfo)
    (ho : o.op = .call { callee := .builtin .append, args := #[s, x], argTypes := #[t, t] }) (ht : P.underlying t = some (.slice e)) (hi : P.info? e = some i) (b : Addr) (hs : a.eval s = .slice (some b) 0 0) (hx : a.eval x = .slice none 0 0)
    (h : wpList P ops Q rest (a.put o.dst (.slice (some b) 0 0)) w) : wpList P ops Q (o :: rest) a w := by
  refine wpList_plain hgd fun _ hK => ?_
  have hr := run_append_none w t o.type e i ht hi b
  have he : (execOp a.eval o).run P w = .ok (.value (.slice (some b) 0 0)) w := by
    unfold execOp
    simp only [ho, resolve, invoke, builtin, Sem.run_bind, Sem.run_pure, Result.andThen_ok, List.map_toArray, List.map_cons, List.map_nil, hs, hx, hr]
  unfold Oper.wp
  rw [he]
  exact hK _ _ h
theorem addT_nil {p : Int} {x : Trm} (hx : ¬ x.t = 0) : addT p x [] = [x] := by
  unfold addT
  rw [if_neg hx, if_neg (by simp [hit])]
  simp [plc]
set_option maxRecDepth 100000 in
set_option maxHeartbeats 16000000 in
theorem sAddNil (B S : Nat) (p : Int) (x : Trm) (w : World) (hS : ModW w S (.slice none 0 0)) (hB : B ≤ w.heap.size) :
    Calls Try.prog 60 #[.pointer (some ⟨S, 0, none⟩), .int .i64 p, .agg #[.int .i64 x.a, .int .i64 x.b, .int .i64 x.c, .int .i64 x.t]] w (AddTo B S (.slice none 0 0) (addT p x []) w) := by
  obtain ⟨i0, hi, hz0, hz1, hz2⟩ := info_parts infoT
  have HMO := Lib.hid hS
  obtain ⟨s0, sf, ssz⟩ := hS
  go_enter Try.func60, Try.ntmps60
  go_wp2_with fail
  obtain ⟨W, hW⟩ : ∃ W, W = w.alloc (Obj.cells #[.int .i64 x.a, .int .i64 x.b, .int .i64 x.c, .int .i64 x.t] 55) := ⟨_, rfl⟩
  have hb0 : Below w.heap.size w W := by rw [hW]; exact Below.alloc (Below.refl _ _) (Nat.le_refl _) _
  have HB0 := Lib.hid hb0
  have HT := Lib.hid (show TAt W w.heap.size 0 x by rw [hW]; refine ⟨?_, ?_, ?_, ?_⟩ <;> simp [go_sem])
  have hn1 : w.heap.size < W.heap.size := by rw [hW]; simp
  have HF := Lib.hid (show ∀ w', Below W.heap.size W w' → w'.cell? ⟨S, 0, none⟩ = some (.slice none 0 0) from fun w' hb => ((HMO.out.below hb0).below hb).c)
  rw [← hW]
  clear hW hb0 s0 sf
  go_loopg [6] 0 (fun gk i wr => gk = 0 ∧ i = .int .i64 0 ∧ Below W.heap.size W wr)
  case atStart => exact ⟨rfl, rfl, Below.refl _ _⟩
  case round =>
    obtain ⟨rfl, rfl, hb⟩ := hrel
    have Hb := Lib.hid hb
    clear hb
    have HFr := Lib.hid (show ∀ w', Below wr.heap.size wr w' → w'.cell? ⟨S, 0, none⟩ = some (.slice none 0 0) from fun w' hb => HF.out w' (Hb.out.trans (hb.mono Hb.out.size)))
    go_upto_region 2 with fail
    refine wp_region_below (by kernel_rfl) (by kernel_rfl) ?_
    (with_reducible refine wpQuiet_yes ?_ ?_; (focus (kernel_rfl)); intro K hK; go_simp; refine ⟨_, fun _ _ => rfl, ?_⟩; with_reducible refine hK _ ?_; clear hK K)
    (with_reducible refine wpQuiet_yes ?_ ?_; (focus (kernel_rfl)); intro K hK; go_simp; refine ⟨_, fun _ _ => rfl, ?_⟩; with_reducible refine hK _ ?_; clear hK K)
    (with_reducible refine wpQuiet_yes ?_ ?_; (focus (kernel_rfl)); intro K hK; go_simp; refine ⟨_, fun _ _ => rfl, ?_⟩; with_reducible refine hK _ ?_; clear hK K)
    (with_reducible refine wpQuiet_yes ?_ ?_; (focus (kernel_rfl)); intro K hK; go_simp; refine ⟨_, fun _ _ => rfl, ?_⟩; with_reducible refine hK _ ?_; clear hK K)
    (with_reducible refine wpQuiet_yes ?_ ?_; (focus (kernel_rfl)); intro K hK; go_simp; refine ⟨(.slice none 0 0), ?_, ?_⟩; rotate_left; with_reducible refine hK _ ?_; clear hK K; rotate_left)
    · intro w' hw
      simp only [HFr.out w' hw, go_sem, Result.andThen, and_self]
    (with_reducible refine wpQuiet_yes ?_ ?_; (focus (kernel_rfl)); intro K hK; go_simp; refine ⟨_, fun _ _ => rfl, ?_⟩; with_reducible refine hK _ ?_; clear hK K)
    (with_reducible refine wpQuiet_yes ?_ ?_; (focus (kernel_rfl)); intro K hK; go_simp; refine ⟨(.bool false), ?_, ?_⟩; rotate_left; with_reducible refine hK _ ?_; clear hK K; rotate_left)
    · intro w' hw
      simp
    (with_reducible refine wpQuiet_yes ?_ ?_; (focus (kernel_rfl)); intro K hK; go_simp; refine ⟨_, fun _ _ => rfl, ?_⟩; with_reducible refine hK _ ?_; clear hK K)
    iterate 11 (with_reducible refine wpQuiet_no ?_ ?_; (focus (kernel_rfl)); intro K hK; go_simp; with_reducible refine hK _ ?_; clear hK K)
    (with_reducible refine wpQuiet_yes ?_ ?_; (focus (kernel_rfl)); intro K hK; go_simp; refine ⟨_, fun _ _ => rfl, ?_⟩; with_reducible refine hK _ ?_; clear hK K)
    refine wpQuiet_nil fun w2 hb2 => ?_
    have HB2 := Lib.hid (Hb.out.trans (hb2.mono Hb.out.size))
    clear hb2 HFr Hb
    simp only [Exit.then]
    obtain ⟨t0, t1, t2, t3⟩ := HT.out.below HB2.out hn1
    simp only [Nat.zero_add] at t0 t1 t2 t3
    by_cases hx0 : x.t = 0
    · have HX0 := Lib.hid hx0
      have HLO := Lib.hid (HB0.out.trans (HB2.out.mono HB0.out.size))
      go_wp2_with fail
      refine bodyPost_ret (v := .tuple #[]) (by simp [results, Try.results60, go_sem]) rfl ⟨rfl, _, HMO.out.below HLO.out, by rw [addT_zero0 HX0.out]; exact Row.nil _ _, by simp [Value.ownBlock], Kept.of_below HLO.out, .inl rfl⟩
    · have HX0 := Lib.hid hx0
      have hxe : (x.t == 0) = false := by simp [hx0]
      clear hx0
      have HFr := Lib.hid (show ∀ w', Below w2.heap.size w2 w' → w'.cell? ⟨S, 0, none⟩ = some (.slice none 0 0) from fun w' hb => HF.out w' (HB2.out.trans (hb.mono HB2.out.size)))
      go_upto_region 7 with fail
      clear t0 t1 t2 t3
      refine wp_region_below (by kernel_rfl) (by kernel_rfl) ?_
      (with_reducible refine wpQuiet_yes ?_ ?_; (focus (kernel_rfl)); intro K hK; go_simp; refine ⟨_, fun _ _ => rfl, ?_⟩; with_reducible refine hK _ ?_; clear hK K)
      (with_reducible refine wpQuiet_yes ?_ ?_; (focus (kernel_rfl)); intro K hK; go_simp; refine ⟨_, fun _ _ => rfl, ?_⟩; with_reducible refine hK _ ?_; clear hK K)
      (with_reducible refine wpQuiet_yes ?_ ?_; (focus (kernel_rfl)); intro K hK; go_simp; refine ⟨_, fun _ _ => rfl, ?_⟩; with_reducible refine hK _ ?_; clear hK K)
      (with_reducible refine wpQuiet_yes ?_ ?_; (focus (kernel_rfl)); intro K hK; go_simp; refine ⟨_, fun _ _ => rfl, ?_⟩; with_reducible refine hK _ ?_; clear hK K)
      (with_reducible refine wpQuiet_yes ?_ ?_; (focus (kernel_rfl)); intro K hK; go_simp; refine ⟨(.slice none 0 0), ?_, ?_⟩; rotate_left; with_reducible refine hK _ ?_; clear hK K; rotate_left)
      · intro w' hw
        simp only [HFr.out w' hw, go_sem, Result.andThen, and_self]
      (with_reducible refine wpQuiet_yes ?_ ?_; (focus (kernel_rfl)); intro K hK; go_simp; refine ⟨_, fun _ _ => rfl, ?_⟩; with_reducible refine hK _ ?_; clear hK K)
      (with_reducible refine wpQuiet_yes ?_ ?_; (focus (kernel_rfl)); intro K hK; go_simp; refine ⟨(.bool false), ?_, ?_⟩; rotate_left; with_reducible refine hK _ ?_; clear hK K; rotate_left)
      · intro w' hw
        simp
      (with_reducible refine wpQuiet_yes ?_ ?_; (focus (kernel_rfl)); intro K hK; go_simp; refine ⟨_, fun _ _ => rfl, ?_⟩; with_reducible refine hK _ ?_; clear hK K)
      iterate 11 (with_reducible refine wpQuiet_no ?_ ?_; (focus (kernel_rfl)); intro K hK; go_simp; with_reducible refine hK _ ?_; clear hK K)
      (with_reducible refine wpQuiet_yes ?_ ?_; (focus (kernel_rfl)); intro K hK; go_simp; refine ⟨_, fun _ _ => rfl, ?_⟩; with_reducible refine hK _ ?_; clear hK K)
      (with_reducible refine wpQuiet_yes ?_ ?_; (focus (kernel_rfl)); intro K hK; go_simp; refine ⟨_, fun _ _ => rfl, ?_⟩; with_reducible refine hK _ ?_; clear hK K)
      refine wpQuiet_nil fun w3 hb3 => ?_
      have hB3 : Below w.heap.size w w3 := HB0.out.trans ((HB2.out.trans (hb3.mono HB2.out.size)).mono HB0.out.size)
      have hT3 : TAt w3 w.heap.size 0 x := (HT.out.below HB2.out hn1).below hb3 (Nat.lt_of_lt_of_le hn1 HB2.out.size)
      have A0 : ASt w B S w.heap.size (.slice none 0 0) (.slice none 0 0) (.slice none 0 0) [] x w3 :=
        ⟨HMO.out.below hB3, Row.nil _ _, by simp [Value.ownBlock], Kept.of_below hB3, .inl rfl, hT3, by have := hb3.size; have := HB2.out.size; omega, Nat.le_refl _, ssz, hB, by simp [Value.ownBlock]⟩
      have hL1 : Below w3.heap.size w3 (w3.alloc (.cells #[] 55)) := Below.alloc (Below.refl _ _) (Nat.le_refl _) _
      have HA1 := Lib.hid (A0.on hL1)
      have HR1 := Lib.hid (Row.lit0 w3 w3.heap.size (Nat.le_refl _))
      obtain ⟨s0, sf, _⟩ := HA1.out.mo
      clear hB3 hT3 A0 HFr HF HB2 HB0 HT hb3
      simp only [Exit.then]
      go_wp2_with (at_builtin; refine wpList_append_none rfl _ _ 24 55 i0 rfl Try.underlying24 hi ⟨w3.heap.size, 0, none⟩ rfl rfl ?_)
      obtain ⟨W4, hW4⟩ : ∃ W, W = w3.alloc (.cells #[] 55) := ⟨_, rfl⟩
      have hsz4 : W4.heap.size = w3.heap.size + 1 := by rw [hW4]; simp
      obtain ⟨g8, hg8⟩ : ∃ g, g = w3.heap.size := ⟨_, rfl⟩
      rw [← hg8] at HR1 hsz4 ⊢
      rw [← hW4] at HR1 HA1 s0 sf ⊢
      have hg84 : g8 < W4.heap.size := by omega
      clear hW4 hL1 hg8 hsz4
      obtain ⟨t0, t1, t2, t3⟩ := HA1.out.bx
      simp only [Nat.zero_add] at t0 t1 t2 t3
      have hBW : B ≤ W4.heap.size := by have := HA1.out.hB; have := HA1.out.hn; have := HA1.out.n1; omega
      have hn3 := HA1.out.n1
      have b12 : ∀ o, Below W4.heap.size W4 (W4.alloc o).drew := fun o => Below.drew (Below.alloc (Below.refl _ _) (Nat.le_refl _) _)
      have HSK := Lib.hid (show ∀ o, ((W4.alloc o).drew.cell? ⟨S, 0, none⟩ = some (.slice none 0 0) ∧ (W4.alloc o).drew.cell? ⟨w.heap.size, 0, none⟩ = some (.int .i64 x.a) ∧ (W4.alloc o).drew.cell? ⟨w.heap.size, 1, none⟩ = some (.int .i64 x.b) ∧ (W4.alloc o).drew.cell? ⟨w.heap.size, 2, none⟩ = some (.int .i64 x.c) ∧ (W4.alloc o).drew.cell? ⟨w.heap.size, 3, none⟩ = some (.int .i64 x.t)) from fun o => by
        obtain ⟨q0, q1, q2, q3⟩ := (HA1.out.on (b12 o)).bx
        exact ⟨(HA1.out.on (b12 o)).mo.c, q0, q1, q2, q3⟩)
      have HA12 := Lib.hid (HA1.out.on (b12 (Obj.cells #[.int .i64 x.a, .int .i64 x.b, .int .i64 x.c, .int .i64 x.t] 55)))
      have hB12 : B ≤ ((W4.alloc (Obj.cells #[.int .i64 x.a, .int .i64 x.b, .int .i64 x.c, .int .i64 x.t] 55)).drew).heap.size := Nat.le_trans hBW (b12 _).size
      clear b12 HR1 HA1
      go_wp2_with fail
      refine wp_region_seq [(0, true), (1, true), (2, true), (3, true), (4, true), (5, true), (6, true), (7, true), (10, true), (8, false), (9, false), (11, false), (12, true), (13, true)] (fun w' => w'.cell? ⟨S, 0, none⟩ = some (.slice none 0 0) ∧ w'.cell? ⟨w.heap.size, 0, none⟩ = some (.int .i64 x.a) ∧ w'.cell? ⟨w.heap.size, 1, none⟩ = some (.int .i64 x.b) ∧ w'.cell? ⟨w.heap.size, 2, none⟩ = some (.int .i64 x.c) ∧ w'.cell? ⟨w.heap.size, 3, none⟩ = some (.int .i64 x.t)) (by kernel_rfl) (by kernel_rfl) rfl (by intro c a d v w h; cases d <;> exact h) ⟨s0, t0, t1, t2, t3⟩ ?_
      iterate 9 (refine wpSeq_take (v := ?_) (List.getElem?_toArray.trans rfl) ?_ ?_; rotate_left; (intro w' hSw; (try dsimp only at hSw); go_simp; (try with_reducible rfl)); (try simp only [Act.put, List.setIfInBounds_toArray, List.set_cons_zero, List.set_cons_succ]))
      refine wpSeq_do (List.getElem?_toArray.trans rfl) (fun K hK => ?_)
      go_simp
      refine hK _ _ (HSK.out _) ?_
      clear hK K
      refine wpSeq_do (List.getElem?_toArray.trans rfl) (fun K hK => ?_)
      refine wp_append_lies _ _ _ 24 rfl B 55 i0 (.agg #[.int .i64 0, .int .i64 0, .int .i64 0, .int .i64 0]) 4 32 Try.underlying24 hi hz0 hz1 hz2 rfl (by decide) (.slice none 0 0) 0 [] (by simp [Act.eval]) HA12.out.row _ 1 1 [.int .i64 x.a, .int .i64 x.b, .int .i64 x.c, .int .i64 x.t] (by simp [Act.eval]; rfl) rfl (by intro j u hj; match j, hj with | 0, hj => (simp at hj; subst hj; simp [Addr.add, go_sem]) | 1, hj => (simp at hj; subst hj; simp [Addr.add, go_sem]) | 2, hj => (simp at hj; subst hj; simp [Addr.add, go_sem]) | 3, hj => (simp at hj; subst hj; simp [Addr.add, go_sem])) (by intro u hu; simp at hu; rcases hu with rfl | rfl | rfl | rfl <;> rfl) (by omega) (by unfold maxLen; omega) (by omega) hB12 _ rfl ?_
      intro gv cv w5 hown hgrow hat _
      have A13 := (HA12.out.app (v' := .slice (some ⟨gv, 0, none⟩) (0 + 1) cv) (R' := [x]) (by unfold Row; rw [flat_one]; exact hown) hgrow (by
        rcases hat with e | e
        · exact .inl e.symm
        · exact .inr (by rw [e]; rfl)))
      obtain ⟨q0, q1, q2, q3⟩ := A13.bx
      refine hK _ _ ⟨A13.mo.c, q0, q1, q2, q3⟩ ?_
      clear hK K
      simp only [Act.put, List.setIfInBounds_toArray, List.set_cons_zero, List.set_cons_succ]
      have hB5 : B ≤ w5.heap.size := Nat.le_trans hB12 hgrow.size
      refine wpSeq_do (List.getElem?_toArray.trans rfl) (fun K hK => ?_)
      refine wp_app_at _ _ 24 rfl B 55 i0 (.agg #[.int .i64 0, .int .i64 0, .int .i64 0, .int .i64 0]) 4 32 Try.underlying24 hi hz0 hz1 hz2 rfl (by decide) (.slice (some ⟨gv, 0, none⟩) (0 + 1) cv) 1 (flat [x]) (by simp [Act.eval]) A13.row ⟨g8, 0, none⟩ 0 0 [] (by simp [Act.eval]) rfl (by intro j u hj; simp at hj) (by intro u hu; cases hu) (by unfold maxLen; omega) (by omega) (by omega) ?_
      intro v9 w9 hown9 hgrow9 hnil9 hat9
      have A9 := (A13.app (R' := [x]) (by unfold Row; simpa using hown9) hgrow9 hat9)
      obtain ⟨g9, n9, c9, rfl⟩ : ∃ g n c, v9 = .slice (some ⟨g, 0, none⟩) n c := by
        rcases A9.row.shape with ⟨h1, _⟩ | ⟨g', c', h1, _⟩
        · exact absurd (hnil9.1 h1).1 (by simp)
        · exact ⟨g', _, c', h1⟩
      obtain ⟨q0, q1, q2, q3⟩ := A9.bx
      refine hK _ _ ⟨A9.mo.c, q0, q1, q2, q3⟩ ?_
      clear hK K
      iterate 2 (refine wpSeq_take (v := ?_) (List.getElem?_toArray.trans rfl) ?_ ?_; rotate_left; (intro w' hSw; (try dsimp only at hSw); go_simp; (try with_reducible rfl)); (try simp only [Act.put, List.setIfInBounds_toArray, List.set_cons_zero, List.set_cons_succ]))
      refine wpSeq_nil ?_
      simp only [Exit.then]
      have HA9 := Lib.hid A9.store
      clear s0 sf t0 t1 t2 t3
      obtain ⟨s1, sf1, _⟩ := A9.mo
      clear hown hgrow hat A9 A13 hnil9 hown9 hgrow9 hat9
      go_wp2_with fail
      refine bodyPost_ret (v := .tuple #[]) (by simp [results, Try.results60, go_sem]) rfl ?_
      rw [addT_nil HX0.out]; exact HA9.out.done
/-- the model's add, whatever its list is -/
theorem sAdd (B S : Nat) (p : Int) (L : List Trm) (x : Trm) (v : Value) (w : World) (hS : ModW w S v) (hR : Row w B v L) (hl : L.length ≤ 4000) (hs : Srt L) (hv : v.ownBlock ≠ some S) (hp : isP p = true) (he : Els p L) (hx : 0 ≤ x.t ∧ x.t < p) (hB : B ≤ w.heap.size) :
    Calls Try.prog 60 #[.pointer (some ⟨S, 0, none⟩), .int .i64 p, .agg #[.int .i64 x.a, .int .i64 x.b, .int .i64 x.c, .int .i64 x.t]] w (AddTo B S v (addT p x L) w) := by
  rcases hR.shape with ⟨rfl, rfl⟩ | ⟨g, cap, rfl, _⟩
  · exact sAddNil B S p x w hS hB
  · exact sAddSome B S g cap p L x w hS hR hl hs (fun e => hv (by rw [e]; rfl)) hp he hx hB
end Go.Proofs.Ytmndcdcjjihecaa
namespace Go.Proofs.Ytmndcdcjjihecaa
open Go.RowKit
/-- what is appended may be of another named type -/
theorem run_append_tx {P : Program} (w : World) (t tx ty e : TypeId) (i : TypeInfo) (ht : P.underlying t = some (.slice e)) (hx : P.underlying tx = some (.slice e)) (hi : P.info? e = some i) (b : Option Addr) (n c : Nat) (x : Value) :
    (Builtin.append_ #[t, tx] ty #[.slice b n c, x]).run P w = (Builtin.append_ #[t, t] ty #[.slice b n c, x]).run P w := by
  simp [Builtin.append_, run_underlying ht, run_underlying hx, sizeOf, typeInfo, hi]
/-- a copy of a row, appended to a literal without terms -/
theorem app_copy (t tx ty : TypeId) (ht : Try.prog.underlying t = some (.slice 55)) (hx : Try.prog.underlying tx = some (.slice 55)) (W : World) (B : Nat) (v : Value) (L : List Trm) (hR : Row W B v L) (hl : L.length ≤ 4000) :
    ∃ v' w', (Builtin.append_ #[t, tx] ty #[.slice (some ⟨W.heap.size, 0, none⟩) 0 0, v]).run Try.prog (W.alloc (.cells #[] 55)) = .ok v' w' ∧ Row w' W.heap.size v' L ∧ Below W.heap.size W w' := by
  obtain ⟨i0, hi, hz0, hz1, hz2⟩ := info_parts infoT
  rw [run_append_tx _ t tx ty _ i0 ht hx hi]
  have hb : Below W.heap.size W (W.alloc (.cells #[] 55)) := Below.alloc (Below.refl _ _) (Nat.le_refl _) _
  have hL0 := Row.lit0 W W.heap.size (Nat.le_refl _)
  rcases hR.shape with ⟨rfl, rfl⟩ | ⟨g, cap, rfl, _⟩
  · exact ⟨_, _, run_append_none _ t ty _ i0 ht hi _, hL0, hb⟩
  · obtain ⟨v', w', hr, hown, hgrow, _⟩ := run_append_own_at (P := Try.prog) (W.alloc (.cells #[] 55)) W.heap.size t ty 55 i0 (.agg #[.int .i64 0, .int .i64 0, .int .i64 0, .int .i64 0]) 4 32 ht hi hz0 hz1 hz2 rfl (by decide) _ 0 [] hL0 ⟨g, 0, none⟩ L.length cap (flat L) (flat_len L) (World.ownsRow.cells (hR.below hb) rfl) (flat_cell L) (by unfold maxLen; omega) (by omega) (by simp)
    refine ⟨v', w', hr, ?_, hb.trans (hL0.low (by simp) hgrow)⟩
    unfold Row
    simpa using hown
theorem sVal (B : Nat) (p : Int) (hp : isP p = true) (L : List Trm) (v : Value) (w : World) (hR : Row w B v L) (hl : L.length ≤ 4000) :
    Calls Try.prog 58 #[.int .i64 p, v] w fun e w' => e = .returned (.bool (validB p L)) ∧ Below w.heap.size w w' := by
  rcases hR.shape with ⟨rfl, rfl⟩ | ⟨g, cap, rfl, _, hg, _⟩
  · exact (sVal_nil p none 0 w).mono fun e w' ⟨he, hw⟩ => ⟨by rw [he]; simp [validB], by rw [← hw]; exact Below.refl _ _⟩
  · exact sVal_some p hp g 0 cap L w (by omega) hg (fun j hj => by rw [Nat.zero_add]; exact hR.tat rfl hj)
set_option maxRecDepth 100000 in
set_option maxHeartbeats 4000000 in
theorem sTold (B : Nat) (p : Int) (hp : isP p = true) (L : List Trm) (v : Value) (w : World) (hR : Row w B v L) (hl : L.length ≤ 4000) :
    Calls Try.prog 31 #[.int .i64 p, .agg #[v]] w (GivesPB (if validB p L = true then L else []) (validB p L) w) := by
  have HRO := Lib.hid hR
  have HV := Lib.hid (fun (w' : World) (hb : Below w.heap.size w w') => sVal B p hp L v w' (hR.below hb) hl)
  obtain ⟨r, hr⟩ : ∃ r, r = validB p L := ⟨_, rfl⟩
  rw [← hr] at HV ⊢
  clear hr hR
  cases r
  · go_enter Try.func31, Try.ntmps31
    go_upto_region 1 with fail
    obtain ⟨W, hW⟩ : ∃ W, W = w.alloc (Obj.cells #[v] 52) := ⟨_, rfl⟩
    have hb0 : Below w.heap.size w W := by rw [hW]; exact Below.alloc (Below.refl _ _) (Nat.le_refl _) _
    have s0 : W.cell? ⟨w.heap.size, 0, none⟩ = some v := by rw [hW]; simp [go_sem]
    have HB0 := Lib.hid hb0
    rw [← hW]
    clear hW hb0
    go_wp2_with (go_at_call 58; refine (HV.out _ HB0.out).mono ?_; rintro e w2 ⟨rfl, hb2⟩)
    have hb : Below w.heap.size w w2 := HB0.out.trans (hb2.mono HB0.out.size)
    refine bodyPost_ret (v := .tuple #[.slice (some ⟨w2.heap.size, 0, none⟩) 0 0, .bool false]) (by simp [results, Try.results31, go_sem]) rfl ⟨_, rfl, (Row.lit0 w2 w.heap.size hb.size).own (by simp), Below.alloc hb hb.size _⟩
  · go_enter Try.func31, Try.ntmps31
    go_upto_region 1 with fail
    obtain ⟨W, hW⟩ : ∃ W, W = w.alloc (Obj.cells #[v] 52) := ⟨_, rfl⟩
    have hb0 : Below w.heap.size w W := by rw [hW]; exact Below.alloc (Below.refl _ _) (Nat.le_refl _) _
    have s0 : W.cell? ⟨w.heap.size, 0, none⟩ = some v := by rw [hW]; simp [go_sem]
    have hn : w.heap.size < W.heap.size := by rw [hW]; simp
    have HB0 := Lib.hid hb0
    rw [← hW]
    clear hW hb0
    go_upto_region 3 with (go_at_call 58; refine (HV.out _ HB0.out).mono ?_; rintro e w2 ⟨rfl, hb2⟩)
    have hb : Below w.heap.size w w2 := HB0.out.trans (hb2.mono HB0.out.size)
    have s2 : (w2.alloc (Obj.cells #[] 55)).cell? ⟨w.heap.size, 0, none⟩ = some v := by
      rw [World.cell?_alloc_past _ _ _ (show w.heap.size < w2.heap.size from Nat.lt_of_lt_of_le hn hb2.size), hb2.cell (p := ⟨w.heap.size, 0, none⟩) hn]; exact s0
    obtain ⟨v', w', hr, hrow, hbw⟩ := app_copy 25 24 25 Try.underlying25 Try.underlying24 w2 B v L (HRO.out.below hb) hl
    go_wp2_with (at_builtin; refine Lib.wpList_append_run _ rfl _ _ 25 24 rfl _ _ rfl rfl _ _ hr ?_)
    refine bodyPost_ret (v := .tuple #[v', .bool true]) (by simp [results, Try.results31, go_sem]) rfl ⟨_, rfl, ?_, hb.trans (hbw.mono hb.size)⟩
    have ho := (row_base hrow hb.size).own (by omega)
    simpa using ho
end Go.Proofs.Ytmndcdcjjihecaa
namespace Go.Proofs.Ytmndcdcjjihecaa
open Go.RowKit
/-- no term appended -/
theorem run_append_zero {P : Program} (w : World) (t ty e : TypeId) (i : TypeInfo) (ht : P.underlying t = some (.slice e)) (hi : P.info? e = some i) (b : Addr) (a : Option Addr) (c : Nat) :
    (Builtin.append_ #[t, t] ty #[.slice (some b) 0 0, .slice a 0 c]).run P w = .ok (.slice (some b) 0 0) w := by
  cases a <;> simp [Builtin.append_, run_underlying ht, sizeOf, typeInfo, hi, Builtin.lenOf, Builtin.firstCells, storeCells, loadCells, loadCellsFrom]
/-- a copy of a polynomial, appended to a literal without terms -/
theorem app_copyT (t tx ty : TypeId) (ht : Try.prog.underlying t = some (.slice 55)) (hx : Try.prog.underlying tx = some (.slice 55)) (W : World) (v : Value) (L : List Trm) (hT : Trms W v L) (hl : L.length ≤ 4000) :
    ∃ v' w', (Builtin.append_ #[t, tx] ty #[.slice (some ⟨W.heap.size, 0, none⟩) 0 0, v]).run Try.prog (W.alloc (.cells #[] 55)) = .ok v' w' ∧ Row w' W.heap.size v' L ∧ Below W.heap.size W w' := by
  obtain ⟨i0, hi, hz0, hz1, hz2⟩ := info_parts infoT
  rw [run_append_tx _ t tx ty _ i0 ht hx hi]
  have hb : Below W.heap.size W (W.alloc (.cells #[] 55)) := Below.alloc (Below.refl _ _) (Nat.le_refl _) _
  have hL0 := Row.lit0 W W.heap.size (Nat.le_refl _)
  obtain ⟨_, a, cap, rfl, rfl | ⟨g, off, rfl, hg, hc⟩⟩ := hT
  · exact ⟨_, _, run_append_zero _ t ty _ i0 ht hi _ a cap, hL0, hb⟩
  · obtain ⟨v', w', hr, hown, hgrow, _⟩ := run_append_own_at (P := Try.prog) (W.alloc (.cells #[] 55)) W.heap.size t ty 55 i0 (.agg #[.int .i64 0, .int .i64 0, .int .i64 0, .int .i64 0]) 4 32 ht hi hz0 hz1 hz2 rfl (by decide) _ 0 [] hL0 ⟨g, off, none⟩ L.length cap (flat L) (flat_len L) (flatT_read (fun j hj => (hc j hj).below hb hg)) (flat_cell L) (by unfold maxLen; omega) (by omega) (by simp)
    refine ⟨v', w', hr, ?_, hb.trans (hL0.low (by simp) hgrow)⟩
    unfold Row
    simpa using hown
theorem AddTo.low {B S : Nat} {v : Value} {L L' : List Trm} {w w' : World} {e : Ending} (h : AddTo B S v L' w e w') (hR : Row w B v L) (hS : B ≤ S) (hB : B ≤ w.heap.size) : Below B w w' := by
  obtain ⟨_, v', _, _, _, hk, _⟩ := h
  exact ⟨hk.os, hk.tape, hk.output, hk.size, fun k hk2 => hk.block k (by omega) (fun hn => by
    rcases hn with hn | hn
    · omega
    · have := (World.ownsRow.lt hR k hn).1; omega)⟩
theorem addAll_take {p : Int} {M L : List Trm} {k : Nat} (hk : k < M.length) : addT p (M.getD k default) (addAll p (M.take k) L) = addAll p (M.take (k + 1)) L := by
  rw [List.take_succ_eq_append_getElem hk, addAll_snoc]
  simp [List.getD_eq_getElem?_getD, hk]
theorem sum_facts {p : Int} {L M : List Trm} (hp : isP p = true) (hL : validB p L = true) (hM : validB p M = true) (k : Nat) : Srt (addAll p (M.take k) L) ∧ Els p (addAll p (M.take k) L) ∧ (addAll p (M.take k) L).length ≤ 120 := by
  have hb := isP_bd hp
  refine ⟨addAll_srt _ _ (validB_srt hL), addAll_els (by omega) _ _ (fun x hx => ?_) (validB_els hL), ?_⟩
  · have := validB_els hM x (List.mem_of_mem_take hx)
    omega
  · have := addAll_len (p := p) (M.take k) L
    have h1 := validB_len hL
    have h2 := validB_len hM
    simp only [List.length_take] at this
    omega
end Go.Proofs.Ytmndcdcjjihecaa
namespace Go.Proofs.Ytmndcdcjjihecaa
open Go.RowKit
/-- a slice of terms and what it holds -/
abbrev VT := Value × List Trm
def vt0 : VT := (.slice none 0 0, [])
def okB (p : Int) (z : VT) : Bool := isP p && validB p z.2
theorem vall_snoc (p : Int) (zs : List VT) (k : Nat) (h : k < zs.length) : (zs.take (k + 1)).all (okB p) = ((zs.take k).all (okB p) && okB p (zs.getD k vt0)) := by
  rw [List.take_succ_eq_append_getElem h, List.all_append]; simp [h]
theorem vall_no (p : Int) (zs : List VT) (k : Nat) (h : k < zs.length) (hn : okB p (zs.getD k vt0) = false) : zs.all (okB p) = false := by
  rw [List.all_eq_false]; exact ⟨zs[k], List.getElem_mem h, by simpa [h] using hn⟩
set_option maxRecDepth 100000 in
set_option maxHeartbeats 4000000 in
theorem sBoth (p : Int) (b off : Nat) (zs : List VT) (w : World) (hl : zs.length ≤ 1000000) (hb : b < w.heap.size)
    (hc : ∀ k, k < zs.length → w.cell? ⟨b, off + k, none⟩ = some (zs.getD k vt0).1) (hT : ∀ k, k < zs.length → Trms w (zs.getD k vt0).1 (zs.getD k vt0).2) :
    Calls Try.prog 38 #[.int .i64 p, .slice (some ⟨b, off, none⟩) zs.length zs.length] w fun e w' => e = .returned (.bool (zs.all (okB p))) ∧ Below w.heap.size w w' := by
  have hC := Lib.hid hc
  have HT := Lib.hid hT
  clear hc hT
  go_enter Try.func38, Try.ntmps38
  go_wp2_with fail
  go_loopw [9] (fun i wr => ∃ k : Nat, k ≤ zs.length ∧ i = .int .i64 k ∧ (zs.take k).all (okB p) = true ∧ Below w.heap.size w wr) (fun i _ => zs.length - (intOf i).toNat)
  case atStart => exact ⟨0, Nat.zero_le _, rfl, by simp, Below.refl _ _⟩
  case round =>
    obtain ⟨k, hk, rfl, hall, hbw⟩ := hrel
    have Hall := Lib.hid hall
    have Hb := Lib.hid hbw
    clear hall
    by_cases hlt : k < zs.length
    · have hltp : (k : Int) < (zs.length : Int) := by omega
      have hk0 : (0 : Int) ≤ (k : Int) := by omega
      have hck : wr.cell? ⟨b, off + k, none⟩ = some (zs.getD k vt0).1 := by rw [hbw.cell (p := ⟨b, off + k, none⟩) hb]; exact hC.out k hlt
      have hz1 := vall_no p zs k hlt
      have hz2 := vall_snoc p zs k hlt
      have hTk := (HT.out k hlt).below hbw
      clear hbw
      generalize zs.getD k vt0 = z at hck hz1 hz2 hTk
      obtain ⟨zv, zl⟩ := z
      dsimp only at hck hTk
      have hV := sPolyValid p zv zl wr hTk
      obtain ⟨h0, a, cap, rfl, h2⟩ := hTk
      have HV := Lib.hid hV
      clear hV h0 h2
      cases hE : okB p (.slice a zl.length cap, zl)
      · have hz := Lib.hid (hz1 hE)
        unfold okB at hE
        dsimp only at hE
        rw [hE] at HV
        clear hz1 hz2 hE
        go_wp2_with (go_at_call 30; refine HV.out.mono ?_; rintro e w2 ⟨rfl, hb2⟩)
        go_ret
        exact ⟨ret_bool hz.out.symm, Hb.out.trans (hb2.mono Hb.out.size)⟩
      · have hz := Lib.hid hz2
        have hE' := Lib.hid hE
        unfold okB at hE
        dsimp only at hE
        rw [hE] at HV
        clear hz1 hz2 hE
        go_wp2_with (go_at_call 30; refine HV.out.mono ?_; rintro e w2 ⟨rfl, hb2⟩)
        have H2 := Lib.hid (Hb.out.trans (hb2.mono Hb.out.size))
        clear hb2
        go_roundw
        case rel => exact ⟨k + 1, by omega, by go_num, by rw [hz.out, Hall.out, hE'.out]; rfl, H2.out⟩
        case measure => simp [intOf]; omega
    · have hkl : ¬ (k : Int) < (zs.length : Int) := by omega
      go_wp2_with fail
      go_ret
      exact ⟨ret_bool (by rw [← Hall.out, List.take_of_length_le (by omega)]), Hb.out⟩
end Go.Proofs.Ytmndcdcjjihecaa
namespace Go.Proofs.Ytmndcdcjjihecaa
open Go.RowKit
theorem ownTrms_mono {w : World} {B B' : Nat} {v : Value} {L : List Trm} (h : OwnTrms w B v L) (hb : B' ≤ B) : OwnTrms w B' v L := by
  obtain ⟨h1, a, cap, hv, h2⟩ := h
  refine ⟨h1, a, cap, hv, ?_⟩
  rcases h2 with h2 | ⟨g, off, ha, h3, h4⟩
  · exact .inl h2
  · exact .inr ⟨g, off, ha, Nat.le_trans hb h3, h4⟩
theorem bothAt (p : Int) (fv gv : Value) (L M : List Trm) (w : World) (hL : Trms w fv L) (hM : Trms w gv M) (r : Bool) (hr : (okB p (fv, L) && okB p (gv, M)) = r) :
    Calls Try.prog 38 #[.int .i64 p, .slice (some ⟨w.heap.size, 0, none⟩) 2 2] (w.alloc (Obj.cells #[fv, gv] 25)) fun e w' => e = .returned (.bool r) ∧ Below w.heap.size w w' := by
  have hb : Below w.heap.size w (w.alloc (Obj.cells #[fv, gv] 25)) := Below.alloc (Below.refl _ _) (Nat.le_refl _) _
  have h := sBoth p w.heap.size 0 [(fv, L), (gv, M)] (w.alloc (Obj.cells #[fv, gv] 25)) (by simp) (by simp)
    (fun k hk => by
      match k, hk with
      | 0, _ => simp
      | 1, _ => simp
      | k + 2, hk => exact absurd hk (by simp))
    (fun k hk => by
      match k, hk with
      | 0, _ => exact hL.below hb
      | 1, _ => exact hM.below hb
      | k + 2, hk => exact absurd hk (by simp))
  refine h.mono fun e w' h => ⟨?_, hb.trans (h.2.mono hb.size)⟩
  rw [h.1, ← hr]
  simp
end Go.Proofs.Ytmndcdcjjihecaa
namespace Go.Proofs.Ytmndcdcjjihecaa
open Go.RowKit
theorem addAll_self {p : Int} {L : List Trm} (hs : Srt L) (he : Els p L) : ∀ k, k ≤ L.length → addAll p (L.take k) [] = L.take k
  | 0, _ => by simp [addAll]
  | k + 1, h => by
    have hkl : k < L.length := by omega
    rw [List.take_succ_eq_append_getElem hkl, addAll_snoc, addAll_self hs he k (by omega), addT_end ?_ ?_]
    · intro y hy
      obtain ⟨j, hj, rfl⟩ := List.getElem_of_mem hy
      simp only [List.length_take] at hj
      rw [List.getElem_take]
      exact List.pairwise_iff_getElem.1 hs j k (by omega) hkl (by omega)
    · have := he _ (List.getElem_mem hkl)
      omega
theorem put_facts {p : Int} {L M : List Trm} (hp : isP p = true) (hL : validB p L = true) (hM : validB p M = true) (k : Nat) : Srt (addAll p (M.take k) L) ∧ Els p (addAll p (M.take k) L) ∧ (addAll p (M.take k) L).length ≤ 120 := sum_facts hp hL hM k
end Go.Proofs.Ytmndcdcjjihecaa
namespace Go.Proofs.Ytmndcdcjjihecaa
open Go.RowKit
def addOk (p : Int) (L M : List Trm) : Bool := ((isP p && validB p L) && (isP p && validB p M)) && validB p (addAll p M L)
def sumV (p : Int) (L M : List Trm) : List Trm := if addOk p L M = true then addAll p M L else []
theorem addOk_no {p : Int} {L M : List Trm} (h : ((isP p && validB p L) && (isP p && validB p M)) = false) : addOk p L M = false ∧ sumV p L M = [] := by
  have e : addOk p L M = false := by unfold addOk; rw [h]; rfl
  exact ⟨e, by unfold sumV; rw [e]; rfl⟩
theorem addOk_yes {p : Int} {L M : List Trm} (h : ((isP p && validB p L) && (isP p && validB p M)) = true) : addOk p L M = validB p (addAll p M L) ∧ sumV p L M = (if validB p (addAll p M L) = true then addAll p M L else []) := by
  have e : addOk p L M = validB p (addAll p M L) := by unfold addOk; rw [h, Bool.true_and]
  exact ⟨e, by unfold sumV; rw [e]⟩
end Go.Proofs.Ytmndcdcjjihecaa
namespace Go.Proofs.Ytmndcdcjjihecaa
open Go.RowKit
/-- a term whose coefficient is made an element -/
def mkT (p : Int) (x : Trm) : Trm := ⟨x.a, x.b, x.c, x.t % p⟩
/-- the sum of the first k terms of a list -/
def mkK (p : Int) (L : List Trm) (k : Nat) : List Trm := addAll p ((L.take k).map (mkT p)) []
def pwB (x : Trm) : Bool := powsB x.a x.b x.c
theorem mkK_zero (p : Int) (L : List Trm) : mkK p L 0 = [] := by simp [mkK, addAll]
theorem mkK_next {p : Int} {L : List Trm} {k : Nat} (hk : k < L.length) : addT p (mkT p (L.getD k default)) (mkK p L k) = mkK p L (k + 1) := by
  unfold mkK
  rw [List.take_succ_eq_append_getElem hk, List.map_append, List.map_singleton, addAll_snoc]
  simp [List.getD_eq_getElem?_getD, hk]
theorem mkK_facts {p : Int} {L : List Trm} (hp : isP p = true) {k : Nat} (hk : k ≤ L.length) (hL : L.length ≤ 60) : Srt (mkK p L k) ∧ Els p (mkK p L k) ∧ (mkK p L k).length ≤ 60 := by
  have hb := isP_bd hp
  refine ⟨addAll_srt _ _ List.Pairwise.nil, addAll_els (by omega) _ _ (fun x hx => ?_) (fun y hy => by cases hy), ?_⟩
  · obtain ⟨z, _, rfl⟩ := List.mem_map.1 hx
    exact emod_bd hb.1
  · have := addAll_len (p := p) ((L.take k).map (mkT p)) []
    rw [List.length_map, List.length_take, List.length_nil] at this
    unfold mkK
    omega
theorem pw_snoc {L : List Trm} {k : Nat} (h : k < L.length) : (L.take (k + 1)).all pwB = ((L.take k).all pwB && pwB (L.getD k default)) := by
  rw [List.take_succ_eq_append_getElem h, List.all_append]
  simp [List.getD_eq_getElem?_getD, h]
theorem pw_no {L : List Trm} {k : Nat} (h : k < L.length) (hn : pwB (L.getD k default) = false) : L.all pwB = false := by
  rw [List.getD_eq_getElem?_getD, List.getElem?_eq_getElem h] at hn
  exact List.all_eq_false.2 ⟨_, List.getElem_mem h, by simpa using hn⟩
def makeOk (p : Int) (L : List Trm) : Bool := (isP p && decide (L.length ≤ 60)) && (L.all pwB && validB p (mkK p L L.length))
def makeV (p : Int) (L : List Trm) : List Trm := if makeOk p L = true then mkK p L L.length else []
set_option maxRecDepth 100000 in
set_option maxHeartbeats 4000000 in
theorem iMakePoly_no (p : Int) (a : Option Addr) (n cap : Nat) (w : World) (hr : (isP p && decide (n ≤ 60)) = false) :
    Calls Try.prog 36 #[.int .i64 p, .slice a n cap] w (GivesPB [] false w) := by
  cases hp : isP p
  · have HP := Lib.hid hp
    clear hr hp
    go_enter Try.func36, Try.ntmps36
    go_wp2_with (go_at_call 57; refine (iPV_no p _ HP.out).mono ?_; rintro e w' ⟨rfl, rfl⟩)
    refine bodyPost_ret (v := .tuple #[.slice none 0 0, .bool false]) (by simp [results, Try.results36, go_sem]) rfl ⟨_, rfl, (Row.nil w w.heap.size).own (by simp), Below.refl _ _⟩
  · have HP := Lib.hid hp
    have hn2 : (60 : Int) < (n : Int) := by rw [hp] at hr; simp at hr; omega
    clear hr hp
    go_enter Try.func36, Try.ntmps36
    go_wp2_with (go_at_call 57; refine (iPV_yes p _ HP.out).mono ?_; rintro e w' ⟨rfl, rfl⟩)
    refine bodyPost_ret (v := .tuple #[.slice none 0 0, .bool false]) (by simp [results, Try.results36, go_sem]) rfl ⟨_, rfl, (Row.nil w w.heap.size).own (by simp), Below.refl _ _⟩
set_option maxRecDepth 100000 in
set_option maxHeartbeats 8000000 in
theorem iMakePoly_yes (p : Int) (a : Option Addr) (cap : Nat) (L : List Trm) (w : World) (hp : isP p = true) (hl : L.length ≤ 60) (hL : Trms w (.slice a L.length cap) L) (R : List Trm) (b : Bool) (hR : R = makeV p L) (hb : b = makeOk p L) :
    Calls Try.prog 36 #[.int .i64 p, .slice a L.length cap] w (GivesPB R b w) := by
  have HP := Lib.hid hp
  have HL := Lib.hid hL
  have HRE := Lib.hid hR
  have HBE := Lib.hid hb
  have hl1 : (L.length : Int) ≤ 60 := by omega
  clear hp hL hR hb
  go_enter Try.func36, Try.ntmps36
  go_wp2_with (go_at_call 57; refine (iPV_yes p _ HP.out).mono ?_; rintro e w' ⟨rfl, rfl⟩)
  obtain ⟨W, hW⟩ : ∃ W, W = w.alloc (Obj.cells #[.int .i64 p, .slice none 0 0] 84) := ⟨_, rfl⟩
  obtain ⟨S, hSe⟩ : ∃ S, S = w.heap.size := ⟨_, rfl⟩
  have hSB : w.heap.size ≤ S := by rw [hSe]; exact Nat.le_refl _
  have HW := Lib.hid (show SumW W S p (.slice none 0 0) ∧ Row W w.heap.size (.slice none 0 0) (mkK p L 0) ∧ Value.ownBlock (.slice none 0 0) ≠ some S ∧ Below w.heap.size w W by
    rw [hW, hSe, mkK_zero]
    exact ⟨⟨by simp [go_sem], by simp [go_sem], World.frozen?_alloc_at _ _ _ 0 rfl, World.frozen?_alloc_at _ _ _ 1 rfl, by simp⟩, Row.nil _ _, by simp [Value.ownBlock], Below.alloc (Below.refl _ _) (Nat.le_refl _) _⟩)
  rw [← hW, ← hSe]
  clear hSe hW
  go_loopw [21] (fun i wr => ∃ (k : Nat) (v : Value), k ≤ L.length ∧ i = .int .i64 k ∧ (L.take k).all pwB = true ∧ SumW wr S p v ∧ Row wr w.heap.size v (mkK p L k) ∧ v.ownBlock ≠ some S ∧ Below w.heap.size w wr) (fun i _ => L.length - (intOf i).toNat)
  case atStart => exact ⟨0, _, by omega, rfl, by simp, HW.out⟩
  case round =>
    clear HW
    obtain ⟨k, v, hk, rfl, hpw, hS, hR, hv, hb⟩ := hrel
    by_cases hlt : k < L.length
    · have hltp : (k : Int) < (L.length : Int) := by omega
      have hk0 : (0 : Int) ≤ (k : Int) := by omega
      obtain ⟨x, hx⟩ : ∃ x, x = L.getD k default := ⟨_, rfl⟩
      obtain ⟨g, off, rfl, hg, hc⟩ : ∃ g off, a = some ⟨g, off, none⟩ ∧ g < w.heap.size ∧ ∀ j : Nat, j < L.length → TAt w g (off + j * 4) (L.getD j default) := by
        obtain ⟨_, a', cap', he, h⟩ := HL.out
        injection he with e1 e2 e3
        subst e1
        rcases h with h | h
        · rw [h] at hlt; simp at hlt
        · exact h
      obtain ⟨b0, b1, b2, b3⟩ := (hc k hlt).below hb hg
      rw [← hx] at b0 b1 b2 b3
      have HV2 := Lib.hid hv
      obtain ⟨n, hne⟩ : ∃ n, n = wr.heap.size := ⟨_, rfl⟩
      obtain ⟨W1, hW1⟩ : ∃ W1, W1 = wr.alloc (Obj.cells #[.int .i64 x.a, .int .i64 x.b, .int .i64 x.c, .int .i64 x.t] 55) := ⟨_, rfl⟩
      have hr1 : Below wr.heap.size wr W1 := by rw [hW1]; exact Below.alloc (Below.refl _ _) (Nat.le_refl _) _
      have hT1 : TAt W1 n 0 x := by rw [hW1, hne]; refine ⟨?_, ?_, ?_, ?_⟩ <;> simp [go_sem]
      have hn1 : n < W1.heap.size := by rw [hW1, hne]; simp
      have hf1 : ∀ i, W1.frozen? ⟨n, i, none⟩ = false := fun i => by rw [hW1, hne]; exact World.frozen?_alloc_at _ _ _ i rfl
      have hnv : v.ownBlock ≠ some n := fun e => by have := (World.ownsRow.lt hR _ e).2; omega
      have hSn : S < n := by rw [hne]; exact hS.sz
      have hwn : w.heap.size ≤ n := by rw [hne]; exact hb.size
      have HF := Lib.hid (fun W' (hb' : Below W1.heap.size W1 W') => show TAt W' n 0 x ∧ W'.frozen? ⟨n, 3, none⟩ = false ∧ n < W'.heap.size ∧ SumW W' S p v ∧ Row W' w.heap.size v (mkK p L k) ∧ Below w.heap.size w W' from
        ⟨hT1.below hb' hn1, by rw [hb'.frozen (p := ⟨n, 3, none⟩) hn1]; exact hf1 3, Nat.lt_of_lt_of_le hn1 hb'.size, (hS.below hr1).below hb', (hR.below hr1).below hb', (hb.trans (hr1.mono hb.size)).trans (hb'.mono (Nat.le_trans hb.size hr1.size))⟩)
      have HW1 := Lib.hid hW1
      have HNV := Lib.hid (And.intro hnv (And.intro hSn hwn))
      obtain ⟨t0, t1, t2, t3⟩ := hT1
      simp only [Nat.zero_add] at t0 t1 t2 t3
      have HFit := Lib.hid (fun w => iFit x.a x.b x.c x.t w)
      cases hpx : pwB x
      · rw [show powsB x.a x.b x.c = false from hpx] at HFit
        have HE := Lib.hid (show makeOk p L = false by unfold makeOk; rw [pw_no hlt (by rw [← hx]; exact hpx)]; simp)
        have hz : b = false := by rw [HBE.out, HE.out]
        have hz2 : R = [] := by rw [HRE.out]; unfold makeV; rw [HE.out]; rfl
        subst hz hz2
        clear hx hS hR hv hb hc hpw hpx hr1 hW1 hf1 hn1 hnv hSn hwn
        go_wp2_with fail
        rw [← HW1.out, ← hne]
        clear hne
        go_wp2_with fail
        refine (HFit.out _).mono ?_
        rintro e w2 ⟨rfl, hb2⟩
        have HQ := Lib.hid (HF.out w2 hb2).2.2.2.2.2
        clear hb2 t0 t1 t2 t3
        go_wp2_with fail
        refine bodyPost_ret (v := .tuple #[.slice none 0 0, .bool false]) (by simp [results, Try.results36, go_sem]) rfl ⟨_, rfl, (Row.nil w2 w.heap.size).own (by simp), HQ.out⟩
      · rw [show powsB x.a x.b x.c = true from hpx] at HFit
        have HXK := Lib.hid (show addT p (mkT p x) (mkK p L k) = mkK p L (k + 1) by rw [hx, mkK_next hlt])
        have HPK := Lib.hid (show (L.take (k + 1)).all pwB = true by rw [pw_snoc hlt, hpw, ← hx, hpx]; rfl)
        clear hx hS hR hv hb hc hpw hpx hr1 hW1 hf1 hn1 hnv hSn hwn
        go_wp2_with fail
        rw [← HW1.out, ← hne]
        clear hne
        go_wp2_with fail
        refine (HFit.out _).mono ?_
        rintro e w2 ⟨rfl, hb2⟩
        clear t0 t1 t2 t3
        obtain ⟨⟨t0, t1, t2, t3⟩, f3, hn2, -, -, -⟩ := HF.out w2 hb2
        simp only [Nat.zero_add] at t0 t1 t2 t3
        have HB2 := Lib.hid hb2
        clear hb2
        go_wp2_with fail
        refine (iRed p x.t _ HP.out).mono ?_
        rintro e w3 ⟨rfl, rfl⟩
        go_wp2_with fail
        obtain ⟨hT2, -, hn2', hS2, hR2, hB2⟩ := HF.out w2 HB2.out
        obtain ⟨hv0, hSn, hwn⟩ := HNV.out
        obtain ⟨W3, hW3⟩ : ∃ W3, W3 = w2.setCell ⟨n, 3, none⟩ (.int .i64 (x.t % p)) := ⟨_, rfl⟩
        have hS3 : SumW W3 S p v := by
          rw [hW3]
          have ne : ∀ i, (⟨n, 3, none⟩ : Addr) ≠ ⟨S, i, none⟩ := fun i e => by have := congrArg Addr.block e; simp at this; omega
          exact ⟨by rw [World.cell?_setCell_other _ _ _ _ (ne 0)]; exact hS2.c0, by rw [World.cell?_setCell_other _ _ _ _ (ne 1)]; exact hS2.c1, by rw [World.frozen?_setCell]; exact hS2.f0, by rw [World.frozen?_setCell]; exact hS2.f1, by simpa using hS2.sz⟩
        have hR3 : Row W3 w.heap.size v (mkK p L k) := by
          rw [hW3]
          exact World.ownsRow.kept (row := some n) hR2 ⟨rfl, rfl, rfl, by simp, fun k hk hne => Below.heap_setCell _ _ _ _ (fun e => hne (by rw [e]))⟩ (.inr hv0)
        have hB3 : Below w.heap.size w W3 := by rw [hW3]; exact hB2.setCell hwn _
        have hc3 : W3.cell? ⟨n, 0, none⟩ = some (.int .i64 x.a) ∧ W3.cell? ⟨n, 1, none⟩ = some (.int .i64 x.b) ∧ W3.cell? ⟨n, 2, none⟩ = some (.int .i64 x.c) ∧ W3.cell? ⟨n, 3, none⟩ = some (.int .i64 (x.t % p)) := by
          rw [hW3]
          refine ⟨?_, ?_, ?_, World.cell?_setCell_same _ _ _ t3⟩
          · rw [World.cell?_setCell_other _ _ _ _ (by simp)]; exact t0
          · rw [World.cell?_setCell_other _ _ _ _ (by simp)]; exact t1
          · rw [World.cell?_setCell_other _ _ _ _ (by simp)]; exact t2
        have H3 := Lib.hid (And.intro hS3 (And.intro hR3 hB3))
        rw [← hW3]
        clear t0 t1 t2 t3 f3 hT2 hS2 hR2 hB2 hS3 hR3 hB3 hW3 hv0
        obtain ⟨t0, t1, t2, t3⟩ := hc3
        go_wp2_with fail
        have hf := mkK_facts (p := p) (L := L) HP.out hk hl
        have hpb := isP_bd HP.out
        refine (iPut w.heap.size S p v (mkK p L k) (mkT p x) W3 H3.out.1 H3.out.2.1 H3.out.2.2.size HP.out hf.1 hf.2.1 (isE_iff.2 (emod_bd hpb.1)) (by omega) HV2.out).mono ?_
        rintro e w4 hP4
        have hlow := hP4.low H3.out.2.1 hSB H3.out.2.2.size
        obtain ⟨rfl, v', hS', hR', hv', _, _⟩ := hP4
        rw [HXK.out] at hR'
        have HQ := Lib.hid (And.intro HPK.out (And.intro hS' (And.intro hR' (And.intro hv' (H3.out.2.2.trans hlow)))))
        clear hS' hR' hv' hlow hf hpb t0 t1 t2 t3
        go_wp2_with fail
        go_roundw
        case rel => exact ⟨k + 1, v', by omega, by go_num, HQ.out⟩
        case measure => simp [intOf]; omega
    · have hkl : k = L.length := by omega
      subst hkl
      rw [List.take_length] at hpw
      have hok : makeOk p L = validB p (mkK p L L.length) := by unfold makeOk; rw [HP.out, hpw, decide_eq_true hl]; rfl
      have hb1 : b = validB p (mkK p L L.length) := by rw [HBE.out, hok]
      have hR1 : R = if b = true then mkK p L L.length else [] := by rw [HRE.out]; unfold makeV; rw [hok, hb1]
      have hf := mkK_facts (p := p) (L := L) HP.out (Nat.le_refl _) hl
      have hown := hR.own (by omega)
      obtain ⟨M, hM⟩ : ∃ M, M = mkK p L L.length := ⟨_, rfl⟩
      rw [← hM] at hown hb1 hR1
      obtain ⟨hl2, ao, co, rfl, _⟩ := hown.trms
      have HO := Lib.hid hown
      have Hb := Lib.hid hb
      have HT := Lib.hid (iPolyOf S p ao co M wr hS hown.trms)
      rw [HP.out, ← hb1] at HT
      clear hown hS hb hR hf hv hpw hok hM
      cases b
      · have hz : R = [] := by rw [hR1]; rfl
        subst hz
        clear hb1 hR1
        go_wp2_with (go_at_call 67; refine HT.out.mono ?_; rintro e w5 ⟨rfl, hb5⟩)
        have H5 := Lib.hid (Hb.out.trans (hb5.mono Hb.out.size))
        refine bodyPost_ret (v := .tuple #[.slice none 0 0, .bool false]) (by simp [results, Try.results36, go_sem]) rfl ⟨_, rfl, (Row.nil _ w.heap.size).own (by simp), H5.out⟩
      · have hz : R = M := by rw [hR1]; rfl
        subst hz
        clear hb1 hR1
        go_wp2_with (go_at_call 67; refine HT.out.mono ?_; rintro e w5 ⟨rfl, hb5⟩)
        have H5 := Lib.hid (And.intro (HO.out.below hb5) (Hb.out.trans (hb5.mono Hb.out.size)))
        refine bodyPost_ret (v := .tuple #[.slice ao R.length co, .bool true]) (by simp [results, Try.results36, go_sem]) rfl ⟨_, rfl, H5.out.1, H5.out.2⟩
theorem makeOk_no {p : Int} {L : List Trm} (h : (isP p && decide (L.length ≤ 60)) = false) : makeOk p L = false ∧ makeV p L = [] := by
  have e : makeOk p L = false := by unfold makeOk; rw [h]; rfl
  exact ⟨e, by unfold makeV; rw [e]; rfl⟩
theorem iMakePoly (p : Int) (f : Value) (L : List Trm) (w : World) (hL : Trms w f L) : Calls Try.prog 36 #[.int .i64 p, f] w (GivesPB (makeV p L) (makeOk p L) w) := by
  obtain ⟨l0, a, cap, rfl, l1⟩ := hL
  cases h : (isP p && decide (L.length ≤ 60))
  · rw [(makeOk_no h).1, (makeOk_no h).2]
    exact iMakePoly_no p a L.length cap w h
  · simp only [Bool.and_eq_true, decide_eq_true_eq] at h
    exact iMakePoly_yes p a cap L w h.1 h.2 ⟨l0, a, cap, rfl, l1⟩ _ _ rfl rfl
end Go.Proofs.Ytmndcdcjjihecaa
namespace Go.Proofs.Ytmndcdcjjihecaa
open Go.RowKit
/-- a term with exponents below the prime -/
def lowT (p : Int) (x : Trm) : Trm := ⟨lowE p x.a, lowE p x.b, lowE p x.c, x.t⟩
def redL (p : Int) (L : List Trm) : List Trm := L.map (lowT p)
theorem redL_len (p : Int) (L : List Trm) : (redL p L).length = L.length := by simp [redL]
theorem redL_getD (p : Int) (L : List Trm) (k : Nat) (h : k < L.length) : (redL p L).getD k default = lowT p (L.getD k default) := by
  simp [redL, List.getD_eq_getElem?_getD, h]
theorem mkT_low {p : Int} {L : List Trm} (h : validB p L = true) {k : Nat} (hk : k < L.length) : mkT p (lowT p (L.getD k default)) = lowT p (L.getD k default) := by
  obtain ⟨h1, h2⟩ := validB_el h hk rfl
  unfold mkT
  rw [show (lowT p (L.getD k default)).t = (L.getD k default).t from rfl, Int.emod_eq_of_lt (by omega) h2]
  rfl
theorem red_next {p : Int} {L : List Trm} (h : validB p L = true) {k : Nat} (hk : k < L.length) : addT p (lowT p (L.getD k default)) (mkK p (redL p L) k) = mkK p (redL p L) (k + 1) := by
  rw [← mkK_next (p := p) (L := redL p L) (k := k) (by rw [redL_len]; exact hk), redL_getD p L k hk, mkT_low h hk]
theorem red_pw {p : Int} {L : List Trm} (hp : isP p = true) (h : validB p L = true) : (redL p L).all pwB = true := by
  rw [List.all_eq_true]
  intro y hy
  obtain ⟨x, hx, rfl⟩ := List.mem_map.1 hy
  obtain ⟨k, hk, rfl⟩ := List.getElem_of_mem hx
  have hb := validB_pows h hk (x := L.getD k default) rfl
  rw [List.getD_eq_getElem?_getD, List.getElem?_eq_getElem hk, Option.getD_some] at hb
  have h1 := lowE_bd hp hb.1.1 hb.1.2
  have h2 := lowE_bd hp hb.2.1.1 hb.2.1.2
  have h3 := lowE_bd hp hb.2.2.1 hb.2.2.2
  simp only [pwB, powsB, powB, lowT, Bool.and_eq_true]
  exact ⟨⟨⟨decide_eq_true h1.1, decide_eq_true h1.2.1⟩, ⟨decide_eq_true h2.1, decide_eq_true h2.2.1⟩⟩, ⟨decide_eq_true h3.1, decide_eq_true h3.2.1⟩⟩
def rdOk (p : Int) (L : List Trm) : Bool := (isP p && validB p L) && makeOk p (redL p L)
def rdV (p : Int) (L : List Trm) : List Trm := if rdOk p L = true then makeV p (redL p L) else []
theorem rdOk_yes {p : Int} {L : List Trm} (hp : isP p = true) (h : validB p L = true) : rdOk p L = validB p (mkK p (redL p L) L.length) ∧ rdV p L = if validB p (mkK p (redL p L) L.length) = true then mkK p (redL p L) L.length else [] := by
  have h1 : makeOk p (redL p L) = validB p (mkK p (redL p L) L.length) := by
    unfold makeOk
    rw [hp, red_pw hp h, redL_len, decide_eq_true (validB_len h)]
    rfl
  have h2 : rdOk p L = validB p (mkK p (redL p L) L.length) := by unfold rdOk; rw [hp, h, h1]; rfl
  refine ⟨h2, ?_⟩
  unfold rdV
  rw [h2]
  split
  · rename_i hv
    unfold makeV
    rw [h1, if_pos hv, redL_len]
  · rfl
theorem rdOk_no {p : Int} {L : List Trm} (h : (isP p && validB p L) = false) : rdOk p L = false ∧ rdV p L = [] := by
  have e : rdOk p L = false := by unfold rdOk; rw [h]; rfl
  exact ⟨e, by unfold rdV; rw [e]; rfl⟩
set_option maxRecDepth 100000 in
set_option maxHeartbeats 8000000 in
theorem sReduced (p : Int) (a : Option Addr) (cap : Nat) (L : List Trm) (w : World) (hp : isP p = true) (hV : validB p L = true) (hL : Trms w (.slice a L.length cap) L) :
    Calls Try.prog 32 #[.int .i64 p, .slice a L.length cap] w fun e w' => ∃ v, e = .returned (.agg #[v]) ∧ Row w' w.heap.size v (mkK p (redL p L) L.length) ∧ Below w.heap.size w w' := by
  have HP := Lib.hid hp
  have HV := Lib.hid hV
  have HL := Lib.hid hL
  have hl := validB_len hV
  clear hp hV hL
  go_enter Try.func32, Try.ntmps32
  go_upto_region 2 with fail
  obtain ⟨W, hW⟩ : ∃ W, W = (w.alloc (Obj.cells #[.slice none 0 0] 52)).alloc (Obj.cells #[.slice none 0 0] 52) := ⟨_, rfl⟩
  obtain ⟨S, hSe⟩ : ∃ S, S = w.heap.size + 1 := ⟨_, rfl⟩
  have hWs : W.heap.size = w.heap.size + 2 := by rw [hW]; simp
  have HW := Lib.hid (show ModW W S (.slice none 0 0) ∧ Row W S (.slice none 0 0) (mkK p (redL p L) 0) ∧ Value.ownBlock (.slice none 0 0) ≠ some S ∧ Below S W W by
    rw [hW, hSe, mkK_zero]
    exact ⟨⟨by simp [go_sem], World.frozen?_alloc_at _ _ _ 0 (by simp), by simp⟩, Row.nil _ _, by simp [Value.ownBlock], Below.refl _ _⟩)
  have HR := Lib.hid (show W.cell? ⟨w.heap.size, 0, none⟩ = some (.slice none 0 0) ∧ W.frozen? ⟨w.heap.size, 0, none⟩ = false ∧ Below w.heap.size w W by
    rw [hW]
    have hb : Below (w.heap.size + 1) (w.alloc (Obj.cells #[.slice none 0 0] 52)) ((w.alloc (Obj.cells #[.slice none 0 0] 52)).alloc (Obj.cells #[.slice none 0 0] 52)) := Below.alloc (Below.refl _ _) (by simp) _
    exact ⟨by rw [hb.cell (p := ⟨w.heap.size, 0, none⟩) (by simp)]; simp [go_sem], by rw [hb.frozen (p := ⟨w.heap.size, 0, none⟩) (by simp)]; exact World.frozen?_alloc_at _ _ _ 0 rfl, Below.alloc (Below.alloc (Below.refl _ _) (Nat.le_refl _) _) (by simp) _⟩)
  rw [← hW]
  subst hSe
  clear hW
  go_wp2_with fail
  go_loopw [12] (fun i wr => ∃ (k : Nat) (v : Value), k ≤ L.length ∧ i = .int .i64 k ∧ ModW wr (w.heap.size + 1) v ∧ Row wr (w.heap.size + 1) v (mkK p (redL p L) k) ∧ v.ownBlock ≠ some (w.heap.size + 1) ∧ Below (w.heap.size + 1) W wr) (fun i _ => L.length - (intOf i).toNat)
  case atStart => exact ⟨0, _, by omega, rfl, HW.out⟩
  case round =>
    clear HW
    obtain ⟨k, v, hk, rfl, hS, hR, hv, hb⟩ := hrel
    by_cases hlt : k < L.length
    · have hltp : (k : Int) < (L.length : Int) := by omega
      have hk0 : (0 : Int) ≤ (k : Int) := by omega
      obtain ⟨x, hx⟩ : ∃ x, x = L.getD k default := ⟨_, rfl⟩
      obtain ⟨g, off, rfl, hg, hc⟩ : ∃ g off, a = some ⟨g, off, none⟩ ∧ g < w.heap.size ∧ ∀ j : Nat, j < L.length → TAt w g (off + j * 4) (L.getD j default) := by
        obtain ⟨_, a', cap', he, h⟩ := HL.out
        injection he with e1 e2 e3
        subst e1
        rcases h with h | h
        · rw [h] at hlt; simp at hlt
        · exact h
      obtain ⟨b0, b1, b2, b3⟩ := ((hc k hlt).below HR.out.2.2 hg).below hb (by omega)
      rw [← hx] at b0 b1 b2 b3
      have hpw := validB_pows HV.out hlt hx
      have htt := validB_el HV.out hlt hx
      have HXK := Lib.hid (show addT p (lowT p x) (mkK p (redL p L) k) = mkK p (redL p L) (k + 1) by rw [hx, red_next HV.out hlt])
      obtain ⟨n, hne⟩ : ∃ n, n = wr.heap.size := ⟨_, rfl⟩
      obtain ⟨W1, hW1⟩ : ∃ W1, W1 = wr.alloc (Obj.cells #[.int .i64 x.a, .int .i64 x.b, .int .i64 x.c, .int .i64 x.t] 55) := ⟨_, rfl⟩
      have hT1 : TAt W1 n 0 x := by rw [hW1, hne]; refine ⟨?_, ?_, ?_, ?_⟩ <;> simp [go_sem]
      have hf1 : ∀ i, W1.frozen? ⟨n, i, none⟩ = false := fun i => by rw [hW1, hne]; exact World.frozen?_alloc_at _ _ _ i rfl
      have hf10 := hf1 0
      have hf11 := hf1 1
      have hf12 := hf1 2
      have hr1 : Below wr.heap.size wr W1 := by rw [hW1]; exact Below.alloc (Below.refl _ _) (Nat.le_refl _) _
      have hsS := hb.size
      have H1 := Lib.hid (fun (W' : World) (hb' : Below wr.heap.size wr W') => show ModW W' (w.heap.size + 1) v ∧ Row W' (w.heap.size + 1) v (mkK p (redL p L) k) ∧ Below (w.heap.size + 1) W W' from
        ⟨hS.below hb', hR.below hb', hb.trans (hb'.mono (by omega))⟩)
      have HV2 := Lib.hid hv
      have HW1 := Lib.hid hW1
      have HR1 := Lib.hid (And.intro hr1 hne)
      have HX := Lib.hid (And.intro hpw htt)
      obtain ⟨t0, t1, t2, t3⟩ := hT1
      simp only [Nat.zero_add] at t0 t1 t2 t3
      clear hx hS hR hv hb hc hpw htt hW1 hr1 hf1
      go_upto_region 5 with fail
      rw [← HW1.out, ← hne]
      clear hne
      go_wp2_with fail
      refine wp_loop_rounds 4 ?_
      rw [rounds_succ]
      go_wp2_with fail
      refine (sLow p x.a HP.out HX.out.1.1.1 HX.out.1.1.2 _).mono ?_
      rintro e w' ⟨rfl, rfl⟩
      go_wp2_with fail
      rw [rounds_succ]
      go_wp2_with fail
      refine (sLow p x.b HP.out HX.out.1.2.1.1 HX.out.1.2.1.2 _).mono ?_
      rintro e w' ⟨rfl, rfl⟩
      go_wp2_with fail
      rw [rounds_succ]
      go_wp2_with fail
      refine (sLow p x.c HP.out HX.out.1.2.2.1 HX.out.1.2.2.2 _).mono ?_
      rintro e w' ⟨rfl, rfl⟩
      go_wp2_with fail
      rw [rounds_succ]
      go_wp2_with fail
      have hb2 : Below wr.heap.size wr (((W1.setCell ⟨n, 0, none⟩ (.int .i64 (lowE p x.a))).setCell ⟨n, 1, none⟩ (.int .i64 (lowE p x.b))).setCell ⟨n, 2, none⟩ (.int .i64 (lowE p x.c))) := by
        obtain ⟨hr1, hne⟩ := HR1.out
        exact ((hr1.setCell (by rw [hne]; exact Nat.le_refl _) _).setCell (by rw [hne]; exact Nat.le_refl _) _).setCell (by rw [hne]; exact Nat.le_refl _) _
      obtain ⟨hS, hR, hb⟩ := H1.out _ hb2
      have hf := mkK_facts (p := p) (L := redL p L) HP.out (k := k) (by rw [redL_len]; omega) (by rw [redL_len]; exact hl)
      have hbs := hb.size
      refine (sAdd (w.heap.size + 1) (w.heap.size + 1) p (mkK p (redL p L) k) (lowT p x) v _ hS hR (by omega) hf.1 HV2.out HP.out hf.2.1 ⟨by have := HX.out.2.1; show 0 ≤ x.t; omega, HX.out.2.2⟩ (by omega)).mono ?_
      rintro e w4 hP4
      have hlow := hP4.low hR (Nat.le_refl _) (by omega)
      obtain ⟨rfl, v', hS', hR', hv', _, _⟩ := hP4
      rw [HXK.out] at hR'
      have HQ := Lib.hid (And.intro hS' (And.intro hR' (And.intro hv' (hb.trans hlow))))
      clear hS' hR' hv' hlow hf hS hR hb hbs hb2 t0 t1 t2 t3
      go_wp2_with fail
      go_roundw
      case rel => exact ⟨k + 1, v', by omega, by go_num, HQ.out⟩
      case measure => simp [intOf]; omega
    · have hkl : k = L.length := by omega
      subst hkl
      obtain ⟨s0, sf, ssz⟩ := hS
      have c0 : wr.cell? ⟨w.heap.size, 0, none⟩ = some (.slice none 0 0) := by rw [hb.cell (p := ⟨w.heap.size, 0, none⟩) (by simp)]; exact HR.out.1
      have f0 : wr.frozen? ⟨w.heap.size, 0, none⟩ = false := by rw [hb.frozen (p := ⟨w.heap.size, 0, none⟩) (by simp)]; exact HR.out.2.1
      have hRn : v.ownBlock ≠ some w.heap.size := fun e => by have := (World.ownsRow.lt hR _ e).1; omega
      have HQ := Lib.hid (show Row (wr.setCell ⟨w.heap.size, 0, none⟩ v) w.heap.size v (mkK p (redL p L) L.length) ∧ Below w.heap.size w (wr.setCell ⟨w.heap.size, 0, none⟩ v) from
        ⟨row_base (World.ownsRow.kept (row := some w.heap.size) hR ⟨rfl, rfl, rfl, by simp, fun k hk hne => Below.heap_setCell _ _ _ _ (fun e => hne (by rw [e]))⟩ (.inr hRn)) (by omega),
          (HR.out.2.2.trans (hb.mono (by omega))).setCell (Nat.le_refl _) _⟩)
      obtain ⟨ao, no, co, rfl⟩ : ∃ ao no co, v = .slice ao no co := by
        rcases hR.shape with ⟨rfl, _⟩ | ⟨b, cap, rfl, _⟩
        · exact ⟨_, _, _, rfl⟩
        · exact ⟨_, _, _, rfl⟩
      clear hR hb hRn hv
      go_wp2_with fail
      refine bodyPost_ret (v := .agg #[.slice ao no co]) (by simp [results, Try.results32, go_sem, c0]) rfl ⟨_, rfl, HQ.out⟩
set_option maxHeartbeats 4000000 in
theorem sReducePoly (p : Int) (f : Value) (L : List Trm) (w : World) (hL : Trms w f L) : Calls Try.prog 10 #[.int .i64 p, f] w (GivesPB (rdV p L) (rdOk p L) w) := by
  cases hn : (isP p && validB p L)
  · rw [(rdOk_no hn).1, (rdOk_no hn).2]
    have HB := Lib.hid (show Calls Try.prog 30 #[.int .i64 p, f] w fun e w' => e = .returned (.bool false) ∧ Below w.heap.size w w' from
      (sPolyValid p f L w hL).mono fun e w' h => by rw [hn] at h; exact h)
    clear hn hL
    go_enter Try.func10, Try.ntmps10
    go_wp2_with fail
    refine HB.out.mono ?_
    rintro e w1 ⟨rfl, hb1⟩
    go_wp2_with fail
    refine bodyPost_ret (v := .tuple #[.slice (some ⟨w1.heap.size, 0, none⟩) 0 0, .bool false]) (by simp [results, Try.results10, go_sem]) rfl ⟨_, rfl, (Row.lit0 w1 w.heap.size hb1.size).own (by simp), Below.alloc hb1 hb1.size _⟩
  · have hn2 := hn
    simp only [Bool.and_eq_true] at hn2
    obtain ⟨hp, hV⟩ := hn2
    have HB := Lib.hid (show Calls Try.prog 30 #[.int .i64 p, f] w fun e w' => e = .returned (.bool true) ∧ Below w.heap.size w w' from
      (sPolyValid p f L w hL).mono fun e w' h => by rw [hn] at h; exact h)
    obtain ⟨h1, h2⟩ := rdOk_yes hp hV
    rw [h1, h2]
    have hl := validB_len hV
    obtain ⟨l0, a, cap, rfl, l1⟩ := hL
    have HD := Lib.hid (fun w1 (hb : Below w.heap.size w w1) => sReduced p a cap L w1 hp hV (Trms.below ⟨l0, a, cap, rfl, l1⟩ hb))
    obtain ⟨M, hM⟩ : ∃ M, M = mkK p (redL p L) L.length := ⟨_, rfl⟩
    have hMl : M.length ≤ 60 := by rw [hM]; exact (mkK_facts (p := p) (L := redL p L) hp (k := L.length) (by rw [redL_len]; omega) (by rw [redL_len]; exact hl)).2.2
    rw [← hM] at HD ⊢
    have HP := Lib.hid hp
    have HT0 := Lib.hid (fun B v w hR => sTold B p hp M v w hR (by omega))
    obtain ⟨R, hR⟩ : ∃ R, R = (if validB p M = true then M else []) := ⟨_, rfl⟩
    obtain ⟨b, hb⟩ : ∃ b, b = validB p M := ⟨_, rfl⟩
    rw [← hR, ← hb] at HT0 ⊢
    clear hn l1 h1 h2 hM hV hp hR hb
    go_enter Try.func10, Try.ntmps10
    go_wp2_with fail
    refine HB.out.mono ?_
    rintro e w1 ⟨rfl, hb1⟩
    have HB1 := Lib.hid hb1
    clear hb1
    go_wp2_with fail
    refine (HD.out _ HB1.out).mono ?_
    rintro e w2 ⟨v, rfl, hR, hb2⟩
    have HT := Lib.hid (HT0.out w1.heap.size v w2 hR)
    have HB2 := Lib.hid (HB1.out.trans (hb2.mono HB1.out.size))
    clear hb2 hR
    go_wp2_with fail
    refine HT.out.mono ?_
    rintro e w5 ⟨v5, rfl, ho5, hb5⟩
    have H5 := Lib.hid (And.intro (ownTrms_mono ho5 HB2.out.size) (HB2.out.trans (hb5.mono HB2.out.size)))
    clear ho5 hb5
    go_wp2_with fail
    refine bodyPost_ret (v := .tuple #[v5, .bool b]) (by simp [results, Try.results10, go_sem]) rfl ⟨_, rfl, H5.out⟩
theorem below_setCells4 {B : Nat} {a : World} (b : Nat) : ∀ (vs : List Value) (o : Nat) (w : World), Below B a w → B ≤ b → Below B a (w.setCells b o vs)
  | [], _, _, h, _ => h
  | v :: r, o, w, h, hb => by
    rw [World.setCells]
    exact below_setCells4 b r (o + 1) _ (h.setCell hb _) hb
/-- the world in which the first k terms of a copy have exponents below the prime -/
structure LowW (p : Int) (L : List Trm) (G k : Nat) (w wr : World) : Prop where
  cells : ∀ j : Nat, j < L.length → TAt wr G (j * 4) (if j < k then lowT p (L.getD j default) else L.getD j default)
  froz : ∀ i : Nat, i < L.length * 4 → wr.frozen? ⟨G, i, none⟩ = false
  sz : G < wr.heap.size
  low : Below w.heap.size w wr
theorem LowW.step {p : Int} {L : List Trm} {G k : Nat} {w wr w' : World} (h : LowW p L G k w wr) (hk : k < L.length) (hG : w.heap.size ≤ G) {F : Nat → Int}
    (ht : LowTo wr w' G (k * 4) F) (h0 : F 0 = lowE p (L.getD k default).a) (h1 : F 1 = lowE p (L.getD k default).b) (h2 : F 2 = lowE p (L.getD k default).c) : LowW p L G (k + 1) w w' := by
  refine ⟨fun j hj => ?_, fun i hi => by rw [ht.froz]; exact h.froz i hi, Nat.lt_of_lt_of_le h.sz (ht.low 0 (Nat.zero_le _)).size, h.low.trans (ht.low _ hG)⟩
  have hc := h.cells j hj
  by_cases e : j = k
  · subst e
    rw [if_pos (by omega)]
    rw [if_neg (by omega)] at hc
    obtain ⟨_, _, _, c3⟩ := hc
    have d0 := ht.cells 0 (by omega)
    have d1 := ht.cells 1 (by omega)
    have d2 := ht.cells 2 (by omega)
    rw [h0] at d0
    rw [h1] at d1
    rw [h2] at d2
    exact ⟨d0, d1, d2, by rw [ht.far _ _ (by omega)]; exact c3⟩
  · have e2 : (if j < k + 1 then lowT p (L.getD j default) else L.getD j default) = (if j < k then lowT p (L.getD j default) else L.getD j default) := by
      by_cases e3 : j < k
      · rw [if_pos e3, if_pos (by omega)]
      · rw [if_neg e3, if_neg (by omega)]
    rw [e2]
    obtain ⟨c0, c1, c2, c3⟩ := hc
    exact ⟨by rw [ht.far _ _ (by omega)]; exact c0, by rw [ht.far _ _ (by omega)]; exact c1, by rw [ht.far _ _ (by omega)]; exact c2, by rw [ht.far _ _ (by omega)]; exact c3⟩
theorem run_copy4P (w : World) (t2 ty : TypeId) (b o dLen dCap : Nat) (a : Addr) (sLen sCap n : Nat) (cs : List Value)
    (hn : Nat.min sLen dLen = n) (hl : cs.length = n * 4)
    (hsrc : ∀ j v, cs[j]? = some v → w.cell? (a.add j) = some v) (hc : ∀ j, j < cs.length → (w.cell? ⟨b, o + j, none⟩).isSome = true) (hf : ∀ j, j < cs.length → w.frozen? ⟨b, o + j, none⟩ = false) (h1 : ∀ v ∈ cs, v.oneCell' = true) :
    (Builtin.copy_ #[24, t2] ty #[.slice (some ⟨b, o, none⟩) dLen dCap, .slice (some a) sLen sCap]).run Try.prog w = .ok (goInt n) (w.setCells b o cs) := by
  have hld := run_loadCells_list (P := Try.prog) w a cs hsrc
  have hst := run_storeCells_cells (P := Try.prog) b o cs 0 w (by simpa using hc) (by simpa using hf) h1
  obtain ⟨i, hq, hz0, hz1, hz2⟩ := info_parts infoT
  simp [Builtin.copy_, run_underlying Try.underlying24, Builtin.lenOf, Builtin.firstCells, sizeOf, typeInfo, hq, hz1, hn, ← hl, hld, hst]
set_option maxRecDepth 100000 in
set_option maxHeartbeats 4000000 in
theorem iReduce_some (p : Int) (g off cap : Nat) (L : List Trm) (w : World) (hp : isP p = true) (hV : validB p L = true) (h0 : 0 < L.length) (hg : g < w.heap.size) (hc : ∀ j : Nat, j < L.length → TAt w g (off + j * 4) (L.getD j default)) (hL : Trms w (.slice (some ⟨g, off, none⟩) L.length cap) L) :
    Calls Try.prog 12 #[.int .i64 p, .slice (some ⟨g, off, none⟩) L.length cap] w (GivesPB (makeV p (redL p L)) (makeOk p (redL p L)) w) := by
  have HB := Lib.hid (show Calls Try.prog 34 #[.int .i64 p, .slice (some ⟨g, off, none⟩) L.length cap] w fun e w' => e = .returned (.bool true) ∧ Below w.heap.size w w' from
    (iPolyValid p _ L w hL).mono fun e w' h => by rw [hp, hV] at h; exact h)
  have HC := Lib.hid hc
  have HP := Lib.hid hp
  have HV := Lib.hid hV
  have hl := validB_len hV
  have HM := Lib.hid (fun f (w' : World) (h : Trms w' f (redL p L)) => iMakePoly p f (redL p L) w' h)
  obtain ⟨R, hR⟩ : ∃ R, R = makeV p (redL p L) := ⟨_, rfl⟩
  obtain ⟨b, hb⟩ : ∃ b, b = makeOk p (redL p L) := ⟨_, rfl⟩
  rw [← hR, ← hb] at HM ⊢
  obtain ⟨i0, hi, hz0, hz1, hz2⟩ := info_parts infoT
  clear hc hV hL hR hb hp
  go_enter Try.func12, Try.ntmps12
  go_wp2_with fail
  refine HB.out.mono ?_
  rintro e w1 ⟨rfl, hb1⟩
  go_wp2_with (at_make; refine wpList_make_full _ rfl _ _ 24 rfl w1.heap.size 55 i0 (.agg #[.int .i64 0, .int .i64 0, .int .i64 0, .int .i64 0]) 4 Try.underlying24 hi hz0 hz1 .i64 .i64 L.length L.length L.length rfl rfl rfl rfl ?c2 ?c3 ?c4 ?_)
  case c2 => rw [hz2]; omega
  case c3 => unfold maxLen; omega
  case c4 => exact Nat.le_refl _
  intro w2 hown hgr
  have hb2 : Below w1.heap.size w1 w2 := (Below.refl _ _).grown hgr (Nat.le_refl _) (fun k hk => by cases hk)
  have hfl := flat_len L
  have hgs : g < w1.heap.size := Nat.lt_of_lt_of_le hg hb1.size
  have hread := flatT_read (w := w2) (g := g) (off := off) (L := L) (fun j hj => ((HC.out j hj).below hb1 hg).below hb2 hgs)
  have hsp : ∀ i, i < L.length * 4 → (w2.cell? ⟨w1.heap.size, i, none⟩).isSome = true := fun i hi => by
    rw [hown.cellAt i hi]
    obtain ⟨u, hu⟩ := made_some _ _ _ hi
    rw [hu]; rfl
  have hcp := run_copy4P w2 25 3 w1.heap.size 0 L.length L.length ⟨g, off, none⟩ L.length cap L.length (flat L) (by simp) hfl hread
    (fun j hj => by rw [Nat.zero_add]; exact hsp j (by omega)) (fun j _ => by rw [Nat.zero_add]; exact hown.frozenAt j) (fun v hv => flat_cell L v hv)
  have hsG : w1.heap.size < w2.heap.size := (hown.lt _ rfl).2
  have hW : LowW p L w1.heap.size 0 w (w2.setCells w1.heap.size 0 (flat L)) := by
    refine ⟨fun j hj => ?_, fun i _ => by rw [World.frozen?_setCells]; exact hown.frozenAt i, Nat.lt_of_lt_of_le hsG (below_setCells4 w1.heap.size _ _ _ (Below.refl w1.heap.size w2) (Nat.le_refl _)).size, below_setCells4 _ _ _ _ (hb1.trans (hb2.mono hb1.size)) hb1.size⟩
    rw [if_neg (by omega)]
    have hin : ∀ d u, d < 4 → (L.getD j default).cs[d]? = some u → (w2.setCells w1.heap.size 0 (flat L)).cell? ⟨w1.heap.size, j * 4 + d, none⟩ = some u := fun d u hd hu => by
      have h1 := flat_at L j d hj hd
      have hjl : j * 4 + d < (flat L).length := by omega
      have := World.cell?_setCells_in w1.heap.size (flat L) 0 w2 (fun k hk => by rw [Nat.zero_add]; exact hsp k (by omega)) (j * 4 + d) hjl
      rw [Nat.zero_add] at this
      rw [this]
      rw [hu, List.getElem?_eq_getElem hjl] at h1
      exact h1
    exact ⟨hin 0 _ (by omega) rfl, hin 1 _ (by omega) rfl, hin 2 _ (by omega) rfl, hin 3 _ (by omega) rfl⟩
  have HW := Lib.hid hW
  have HCP := Lib.hid hcp
  obtain ⟨G, hG⟩ : ∃ G, G = w1.heap.size := ⟨_, rfl⟩
  have hGw : w.heap.size ≤ G := by rw [hG]; exact hb1.size
  rw [← hG] at HW HCP
  rw [← hG]
  clear hown hgr hi hz0 hz1 hz2 hW hsp hread hb2 hb1 hcp hG hsG
  go_wp2_with (simp only [HCP.out])
  clear HCP
  go_loopw [20] (fun i wr => ∃ k : Nat, k ≤ L.length ∧ i = .int .i64 k ∧ LowW p L G k w wr) (fun i _ => L.length - (intOf i).toNat)
  case atStart => exact ⟨0, by omega, rfl, HW.out⟩
  case round =>
    clear HW
    obtain ⟨k, hk, rfl, hS⟩ := hrel
    by_cases hlt : k < L.length
    · have hltp : (k : Int) < (L.length : Int) := by omega
      have hk0 : (0 : Int) ≤ (k : Int) := by omega
      have HS := Lib.hid hS
      have hT := hS.cells k hlt
      rw [if_neg (by omega)] at hT
      obtain ⟨x, hx⟩ : ∃ x, x = L.getD k default := ⟨_, rfl⟩
      have HX := Lib.hid (validB_pows HV.out hlt hx)
      rw [← hx] at hT
      have Hx := Lib.hid hx
      have HT := Lib.hid hT
      clear hx hS hT
      go_wp2_with fail
      refine (iLower p HP.out G (k * 4) (fun j => if j = 0 then x.a else if j = 1 then x.b else x.c) (fun j hj => by
        obtain ⟨h1, h2, h3⟩ := HX.out
        split
        · exact h1
        · split
          · exact h2
          · exact h3) wr (fun j hj => by
        obtain ⟨t0, t1, t2, t3⟩ := HT.out
        match j, hj with
        | 0, _ => exact t0
        | 1, _ => exact t1
        | 2, _ => exact t2) (fun j hj => HS.out.froz _ (by omega))).mono ?_
      rintro e w3 ⟨rfl, ht⟩
      have HN := Lib.hid (HS.out.step hlt hGw ht (by rw [← Hx.out]; rfl) (by rw [← Hx.out]; rfl) (by rw [← Hx.out]; rfl))
      clear ht HS
      go_wp2_with fail
      go_roundw
      case rel => exact ⟨k + 1, by omega, by go_num, HN.out⟩
      case measure => simp [intOf]; omega
    · have hkl : k = L.length := by omega
      subst hkl
      have hTr : Trms wr (.slice (some ⟨G, 0, none⟩) L.length L.length) (redL p L) := by
        refine ⟨by rw [redL_len]; omega, _, _, by rw [redL_len], .inr ⟨G, 0, rfl, hS.sz, fun j hj => ?_⟩⟩
        rw [redL_len] at hj
        rw [redL_getD p L j hj, Nat.zero_add]
        have := hS.cells j hj
        rwa [if_pos hj] at this
      have HR := Lib.hid (HM.out _ wr hTr)
      have HL := Lib.hid hS.low
      clear hS hTr
      go_wp2_with fail
      refine HR.out.mono ?_
      rintro e w5 ⟨v5, rfl, ho5, hb5⟩
      have H5 := Lib.hid (And.intro (ownTrms_mono ho5 HL.out.size) (HL.out.trans (hb5.mono HL.out.size)))
      clear ho5 hb5
      go_wp2_with fail
      refine bodyPost_ret (v := .tuple #[v5, .bool b]) (by simp [results, Try.results12, go_sem]) rfl ⟨_, rfl, H5.out⟩
theorem run_copy40 (w : World) (t2 ty : TypeId) (b : Nat) (a : Option Addr) (dCap sCap : Nat) :
    (Builtin.copy_ #[24, t2] ty #[.slice (some ⟨b, 0, none⟩) 0 dCap, .slice a 0 sCap]).run Try.prog w = .ok (goInt 0) w := by
  obtain ⟨i, hq, hz0, hz1, hz2⟩ := info_parts infoT
  have hld : ∀ x : Addr, (loadCells x 0).run Try.prog w = .ok #[] w := fun x => by simp [loadCells, loadCellsFrom]
  have hst : ∀ x : Addr, (storeCells x [] 0).run Try.prog w = .ok () w := fun x => rfl
  cases a <;> simp [Builtin.copy_, run_underlying Try.underlying24, Builtin.lenOf, Builtin.firstCells, sizeOf, typeInfo, hq, hld, hst]
set_option maxRecDepth 100000 in
set_option maxHeartbeats 4000000 in
theorem iReduce_nil (p : Int) (a : Option Addr) (cap : Nat) (w : World) (hp : isP p = true) :
    Calls Try.prog 12 #[.int .i64 p, .slice a 0 cap] w (GivesPB (makeV p []) (makeOk p []) w) := by
  have HB := Lib.hid (iPolyValid_nil p hp a cap w)
  have HM := Lib.hid (fun f (w' : World) (h : Trms w' f []) => iMakePoly p f [] w' h)
  obtain ⟨R, hR⟩ : ∃ R, R = makeV p [] := ⟨_, rfl⟩
  obtain ⟨b, hb⟩ : ∃ b, b = makeOk p [] := ⟨_, rfl⟩
  rw [← hR, ← hb] at HM ⊢
  obtain ⟨i0, hi, hz0, hz1, hz2⟩ := info_parts infoT
  clear hR hb hp
  go_enter Try.func12, Try.ntmps12
  go_wp2_with fail
  refine HB.out.mono ?_
  rintro e w1 ⟨rfl, rfl⟩
  go_wp2_with (at_make; refine wpList_make_full _ rfl _ _ 24 rfl w.heap.size 55 i0 (.agg #[.int .i64 0, .int .i64 0, .int .i64 0, .int .i64 0]) 4 Try.underlying24 hi hz0 hz1 .i64 .i64 0 0 0 rfl rfl rfl rfl ?c2 ?c3 ?c4 ?_)
  case c2 => rw [hz2]; omega
  case c3 => unfold maxLen; omega
  case c4 => exact Nat.le_refl _
  intro w2 hown hgr
  have HB2 := Lib.hid (show Below w.heap.size w w2 from (Below.refl _ _).grown hgr (Nat.le_refl _) (fun k hk => by cases hk))
  clear hown hgr hi hz0 hz1 hz2
  have HCP := Lib.hid (run_copy40 w2 25 3 w.heap.size a 0 cap)
  go_wp2_with (simp only [HCP.out])
  go_loopw [20] (fun i wr => i = .int .i64 0 ∧ wr = w2) (fun _ _ => 0)
  case atStart => exact ⟨rfl, rfl⟩
  case round =>
    obtain ⟨rfl, rfl⟩ := hrel
    go_wp2_with fail
    refine (HM.out _ _ ⟨by simp, _, _, rfl, .inl rfl⟩).mono ?_
    rintro e w5 ⟨v5, rfl, ho5, hb5⟩
    have H5 := Lib.hid (And.intro (ownTrms_mono ho5 HB2.out.size) (HB2.out.trans (hb5.mono HB2.out.size)))
    clear ho5 hb5
    go_wp2_with fail
    refine bodyPost_ret (v := .tuple #[v5, .bool b]) (by simp [results, Try.results12, go_sem]) rfl ⟨_, rfl, H5.out⟩
theorem iReduce_no (p : Int) (f : Value) (L : List Trm) (w : World) (hL : Trms w f L) (hn : (isP p && validB p L) = false) :
    Calls Try.prog 12 #[.int .i64 p, f] w (GivesPB [] false w) := by
  have HB := Lib.hid (show Calls Try.prog 34 #[.int .i64 p, f] w fun e w' => e = .returned (.bool false) ∧ Below w.heap.size w w' from
    (iPolyValid p f L w hL).mono fun e w' h => by rw [hn] at h; exact h)
  clear hn hL
  go_enter Try.func12, Try.ntmps12
  go_wp2_with fail
  refine HB.out.mono ?_
  rintro e w1 ⟨rfl, hb1⟩
  go_wp2_with fail
  refine bodyPost_ret (v := .tuple #[.slice none 0 0, .bool false]) (by simp [results, Try.results12, go_sem]) rfl ⟨_, rfl, (Row.nil w1 w.heap.size).own (by simp), hb1⟩
theorem iReducePoly (p : Int) (f : Value) (L : List Trm) (w : World) (hL : Trms w f L) : Calls Try.prog 12 #[.int .i64 p, f] w (GivesPB (rdV p L) (rdOk p L) w) := by
  cases hn : (isP p && validB p L)
  · rw [(rdOk_no hn).1, (rdOk_no hn).2]
    exact iReduce_no p f L w hL hn
  · have hn2 := hn
    simp only [Bool.and_eq_true] at hn2
    have e1 : rdOk p L = makeOk p (redL p L) := by unfold rdOk; rw [hn]; rfl
    have e2 : rdV p L = makeV p (redL p L) := by
      unfold rdV
      rw [e1]
      split
      · rfl
      · rename_i h; unfold makeV; rw [if_neg h]
    rw [e1, e2]
    obtain ⟨l0, a, cap, rfl, l1⟩ := hL
    rcases l1 with rfl | ⟨g, off, rfl, hg, hc⟩
    · exact iReduce_nil p a cap w hn2.1
    · by_cases h0 : 0 < L.length
      · exact iReduce_some p g off cap L w hn2.1 hn2.2 h0 hg hc ⟨l0, _, cap, rfl, .inr ⟨g, off, rfl, hg, hc⟩⟩
      · have : L = [] := List.length_eq_zero_iff.1 (by omega)
        subst this
        exact iReduce_nil p _ cap w hn2.1
set_option maxRecDepth 100000 in
set_option maxHeartbeats 8000000 in
theorem xReducePoly_in (a0 : Int) (a1 : Option Addr) (L1 : List Trm) (c1 : Nat) (r0 : List Trm) (r1 : Bool) (w : World) (h1 : Trms w (.slice a1 L1.length c1) L1) (hl : L1.length ≤ 1048576)
    (hS : ∀ f1, ∀ w, Trms w f1 L1 → Calls Try.prog 10 #[.int .i64 a0, f1] w fun e w' => ∃ u0, e = .returned (.tuple #[u0, .bool r1]) ∧ OwnTrms w' w.heap.size u0 r0 ∧ Below w.heap.size w w')
    (hI : ∀ f1, ∀ w, Trms w f1 L1 → Calls Try.prog 12 #[.int .i64 a0, f1] w fun e w' => ∃ u0, e = .returned (.tuple #[u0, .bool r1]) ∧ OwnTrms w' w.heap.size u0 r0 ∧ Below w.heap.size w w') :
    Calls Try.prog 3 #[.int .i64 a0, .slice a1 L1.length c1] w fun e w' => e = .returned (.bool true) ∧ Below w.heap.size w w' := by
  have m1 : (1048576 : Int) - L1.length ≥ 0 := by omega
  have HS1 := Lib.hid (fun w => szP_at a1 L1.length c1 (1048576) w (by omega) (by omega) (by omega))
  have Q1 := Lib.hid h1
  have n1 : (L1.length : Int) ≤ 1048576 := by omega
  clear h1
  have HSP := Lib.hid hS
  have HIM := Lib.hid hI
  clear hS hI
  have bb1 := bne_self2 r1
  go_enter Try.func3, Try.ntmps3
  go_wp2_with fail
  refine (HS1.out _).mono ?_
  rintro e w' ⟨rfl, rfl⟩
  have B := Lib.hid (Below.refl w.heap.size w)
  go_wp2_with fail
  refine (toP _ L1 _ (Q1.out.below B.out)).mono ?_
  rintro e W1 ⟨s1, rfl, ho, hb⟩
  have Z1 := Lib.hid hb.size
  replace B := Lib.hid (B.out.trans (hb.mono B.out.size))
  clear hb
  have S1 := Lib.hid ho.trms
  clear ho
  go_wp2_with fail
  refine (HSP.out _ _ S1.out).mono ?_
  rintro e W2 ⟨v0, rfl, hv0, hb⟩
  have Z2 := Lib.hid hb.size
  replace B := Lib.hid (B.out.trans (hb.mono B.out.size))
  replace S1 := Lib.hid (S1.out.below hb)
  clear hb
  clear S1
  have V0 := Lib.hid hv0.trms
  have z0 : (r0.length : Int) ≤ 1048576 := by have := hv0.1; omega
  clear hv0
  have X := Lib.hid (Below.refl W2.heap.size W2)
  go_wp2_with fail
  refine (toP _ L1 _ (Q1.out.below B.out)).mono ?_
  rintro e W3 ⟨x1, rfl, ho, hb⟩
  have Z3 := Lib.hid hb.size
  replace B := Lib.hid (B.out.trans (hb.mono B.out.size))
  replace X := Lib.hid (X.out.trans (hb.mono X.out.size))
  clear hb
  have O1 := Lib.hid ho
  clear ho
  have Y1 := Lib.hid (Below.refl W3.heap.size W3)
  go_wp2_with fail
  refine (HIM.out _ _ (O1.out.trms.below Y1.out)).mono ?_
  rintro e W4 ⟨g0, rfl, hg0, hb⟩
  have P1 := Lib.hid (show w.heap.size ≤ W2.heap.size ∧ W2.heap.size ≤ W2.heap.size ∧ W3.heap.size ≤ W3.heap.size by have := B.out.size; have := X.out.size; have := Z1.out; have := Z2.out; have := Z3.out; first | omega | (refine ⟨?_, ?_, ?_⟩ <;> omega))
  have PG := Lib.hid (show w.heap.size ≤ W3.heap.size ∧ W2.heap.size ≤ W3.heap.size by have := Z1.out; have := Z2.out; have := Z3.out; first | omega | (refine ⟨?_, ?_⟩ <;> omega))
  replace B := Lib.hid (B.out.trans (hb.mono B.out.size))
  replace X := Lib.hid (X.out.trans (hb.mono X.out.size))
  replace Y1 := Lib.hid (Y1.out.trans (hb.mono Y1.out.size))
  clear hb
  have G0 := Lib.hid hg0
  clear hg0
  go_wp2_with fail
  refine (eqP g0 v0 r0 _ G0.out.trms (V0.out.below X.out)).mono ?_
  rintro e W5 ⟨rfl, hb⟩
  replace B := Lib.hid (B.out.trans (hb.mono B.out.size))
  replace X := Lib.hid (X.out.trans (hb.mono X.out.size))
  replace Y1 := Lib.hid (Y1.out.trans (hb.mono Y1.out.size))
  replace G0 := Lib.hid (G0.out.below hb)
  clear hb
  go_wp2_with fail
  refine (toP _ L1 _ (Q1.out.below B.out)).mono ?_
  rintro e W6 ⟨y1, rfl, ho, hb⟩
  replace B := Lib.hid (B.out.trans (hb.mono B.out.size))
  replace X := Lib.hid (X.out.trans (hb.mono X.out.size))
  replace Y1 := Lib.hid (Y1.out.trans (hb.mono Y1.out.size))
  replace G0 := Lib.hid (G0.out.below hb)
  clear hb
  have S1 := Lib.hid ho.trms
  clear ho
  go_wp2_with fail
  refine (eqP x1 y1 L1 _ (O1.out.trms.below Y1.out) S1.out).mono ?_
  rintro e W7 ⟨rfl, hb⟩
  clear S1
  replace B := Lib.hid (B.out.trans (hb.mono B.out.size))
  replace X := Lib.hid (X.out.trans (hb.mono X.out.size))
  replace Y1 := Lib.hid (Y1.out.trans (hb.mono Y1.out.size))
  replace G0 := Lib.hid (G0.out.below hb)
  clear hb
  go_wp2_with fail
  refine (markTsame x1 L1 _ (1) W3 _ O1.out (same_of Y1.out) (by omega) (by omega)).mono ?_
  rintro e W8 ⟨rfl, hb⟩
  replace B := Lib.hid (B.out.trans (hb.low.mono P1.out.1))
  replace X := Lib.hid (X.out.trans (hb.low.mono P1.out.2.1))
  replace G0 := Lib.hid (G0.out.betw' P1.out.2.2 hb)
  clear hb
  go_wp2_with fail
  refine (eqP g0 v0 r0 _ G0.out.trms (V0.out.below X.out)).mono ?_
  rintro e W9 ⟨rfl, hb⟩
  replace B := Lib.hid (B.out.trans (hb.mono B.out.size))
  replace X := Lib.hid (X.out.trans (hb.mono X.out.size))
  replace G0 := Lib.hid (G0.out.below hb)
  clear hb
  go_wp2_with fail
  refine (markTown g0 r0 _ (1) _ G0.out (by omega) (by omega)).mono ?_
  rintro e W10 ⟨rfl, hh, hb, hs⟩
  replace B := Lib.hid (B.out.trans (hb.mono PG.out.1))
  replace X := Lib.hid (X.out.trans (hb.mono PG.out.2))
  have D0 := Lib.hid hh
  clear hh hb hs
  go_wp2_with fail
  refine (heldTown g0 r0.length _ 1 _ D0.out (by omega) (by omega)).mono ?_
  rintro e W11 ⟨rfl, rfl⟩
  go_wp2_with fail
  refine (toP _ L1 _ (Q1.out.below B.out)).mono ?_
  rintro e W12 ⟨t1, rfl, ho, hb⟩
  replace B := Lib.hid (B.out.trans (hb.mono B.out.size))
  replace X := Lib.hid (X.out.trans (hb.mono X.out.size))
  replace D0 := Lib.hid (D0.out.below hb)
  clear hb
  have S1 := Lib.hid ho.trms
  clear ho
  go_wp2_with fail
  refine (HIM.out _ _ S1.out).mono ?_
  rintro e W13 ⟨t0, rfl, ht0, hb⟩
  replace B := Lib.hid (B.out.trans (hb.mono B.out.size))
  replace X := Lib.hid (X.out.trans (hb.mono X.out.size))
  replace D0 := Lib.hid (D0.out.below hb)
  replace S1 := Lib.hid (S1.out.below hb)
  clear hb
  clear S1
  have T0 := Lib.hid ht0.trms
  clear ht0
  go_wp2_with fail
  refine (eqP t0 v0 r0 _ T0.out (V0.out.below X.out)).mono ?_
  rintro e W14 ⟨rfl, hb⟩
  replace B := Lib.hid (B.out.trans (hb.mono B.out.size))
  replace X := Lib.hid (X.out.trans (hb.mono X.out.size))
  replace D0 := Lib.hid (D0.out.below hb)
  replace T0 := Lib.hid (T0.out.below hb)
  clear hb
  go_wp2_with fail
  refine (heldTown g0 r0.length _ 1 _ D0.out (by omega) (by omega)).mono ?_
  rintro e W15 ⟨rfl, rfl⟩
  go_wp2_with fail
  go_ret
  exact ⟨rfl, B.out⟩
set_option maxHeartbeats 1000000 in
theorem xReducePoly_long0 (a0 : Int) (a1 : Option Addr) (n1 c1 : Nat) (w : World) (h1 : 1048576 < n1) (h2 : n1 ≤ 9223372036854775807) :
    Calls Try.prog 3 #[.int .i64 a0, .slice a1 n1 c1] w fun e w' => e = .returned (.bool true) ∧ Below w.heap.size w w' := by
  have HS1 := Lib.hid (fun w => szP_over a1 n1 c1 (1048576) w (by omega) (by omega) (by omega) (by omega))
  clear h1 h2
  go_enter Try.func3, Try.ntmps3
  go_wp2_with fail
  refine (HS1.out _).mono ?_
  rintro e w' ⟨rfl, rfl⟩
  go_wp2_with fail
  go_ret
  exact ⟨rfl, Below.refl _ _⟩
theorem xReducePoly (p : Int) (a : Option Addr) (len cap : Nat) (L : List Trm) (w : World) (h : RowT w a len L) :
    Calls Try.prog 3 #[.int .i64 p, .slice a len cap] w fun e w' => e = .returned (.bool true) ∧ Below w.heap.size w w' := by
  by_cases hl : len ≤ 1048576
  · have := h.1
    subst this
    exact xReducePoly_in p a L cap (rdV p L) (rdOk p L) w (h.trms hl) hl (fun f w hf => sReducePoly p f L w hf) (fun f w hf => iReducePoly p f L w hf)
  · exact xReducePoly_long0 p a len cap w (by omega) h.2.1
end Go.Proofs.Ytmndcdcjjihecaa
