/-
  What the model's add of a term to a list of terms keeps and leaves behind, and its contract at a list that lies somewhere. Conditions: the terms of the list are in order and their factors are elements.
-/
import Derived.Test.YtfmpcniehgipfaaBd18
import Derived.Test.YtfmpcniehgipfaaBd8
import Derived.Test.YtfmpcniehgipfaaBd17
import Derived.Deep.Cut
import Derived.Deep.CutRange
import Derived.Deep.LoopGhost
import Derived.Maps.AppendAt
import Derived.Deep.AppendLies
import Derived.Test.YtfmpcniehgipfaaBd4
namespace Go.Proofs.Ytfmpcniehgipfaa
open Go.RowKit
/-- the model's list of terms, in block S -/
structure ModW (w : World) (S : Nat) (v : Value) : Prop where
  c : w.cell? ⟨S, 0, none⟩ = some v
  f : w.frozen? ⟨S, 0, none⟩ = false
  sz : S < w.heap.size
theorem ModW.below {w w' : World} {S : Nat} {v : Value} (h : ModW w S v) (hb : Below w.heap.size w w') : ModW w' S v := by
  have sz := h.sz
  have e := hb.size
  exact ⟨by rw [hb.cell (p := ⟨S, 0, none⟩) sz]; exact h.c, by rw [hb.frozen (p := ⟨S, 0, none⟩) sz]; exact h.f, by omega⟩
/-- what add reads: x lies boxed in block n, the list in block S, its terms in block g -/
structure AddW (W : World) (n S g cap : Nat) (L : List Trm) (x : Trm) : Prop where
  bx : TAt W n 0 x
  mo : ModW W S (.slice (some ⟨g, 0, none⟩) L.length cap)
  row : ∀ j : Nat, j < L.length → TAt W g (j * 4) (L.getD j default)
  n1 : n < W.heap.size
  g1 : g < W.heap.size
theorem AddW.below {W W' : World} {n S g cap : Nat} {L : List Trm} {x : Trm} (h : AddW W n S g cap L x) (hb : Below W.heap.size W W') : AddW W' n S g cap L x := by
  have e := hb.size
  have n1 := h.n1
  have g1 := h.g1
  exact ⟨h.bx.below hb n1, h.mo.below hb, fun j hj => (h.row j hj).below hb g1, by omega, by omega⟩
/-- what add leaves behind -/
def AddTo (B S : Nat) (v : Value) (L' : List Trm) (w : World) (e : Ending) (w' : World) : Prop :=
  e = .returned (.tuple #[]) ∧ ∃ v', ModW w' S v' ∧ Row w' B v' L' ∧ v'.ownBlock ≠ some S ∧ Kept (fun k => k = S ∨ v.ownBlock = some k) w w' ∧ (v'.ownBlock = v.ownBlock ∨ ∃ g, v'.ownBlock = some g ∧ w.heap.size ≤ g)
theorem addT_zero0 {p : Int} {x : Trm} {L : List Trm} (hx : x.t = 0) : addT p x L = L := by unfold addT; rw [if_pos hx]
end Go.Proofs.Ytfmpcniehgipfaa
namespace Go.Proofs.Ytfmpcniehgipfaa
open Go.RowKit
theorem flatT_read {w : World} {g off : Nat} {L : List Trm} (hc : ∀ j : Nat, j < L.length → TAt w g (off + j * 4) (L.getD j default)) :
    ∀ (i : Nat) (u : Value), (flat L)[i]? = some u → w.cell? ((⟨g, off, none⟩ : Addr).add i) = some u := by
  intro i u hu
  have hi : i < (flat L).length := by
    rcases Nat.lt_or_ge i (flat L).length with h | h
    · exact h
    · rw [List.getElem?_eq_none h] at hu; cases hu
  rw [flat_len] at hi
  have hj : i / 4 < L.length := by omega
  have hd : i % 4 < 4 := by omega
  have e : i = i / 4 * 4 + i % 4 := by omega
  rw [e, flat_at L (i / 4) (i % 4) hj hd] at hu
  have ha : (⟨g, off, none⟩ : Addr).add i = ⟨g, off + i, none⟩ := by simp [Addr.add]
  rw [ha]
  obtain ⟨h0, h1, h2, h3⟩ := hc (i / 4) hj
  have : i % 4 = 0 ∨ i % 4 = 1 ∨ i % 4 = 2 ∨ i % 4 = 3 := by omega
  rcases this with h | h | h | h
  · rw [h] at hu; simp [Trm.cs] at hu; subst hu
    rw [show off + i = off + i / 4 * 4 by omega]; exact h0
  · rw [h] at hu; simp [Trm.cs] at hu; subst hu
    rw [show off + i = off + i / 4 * 4 + 1 by omega]; exact h1
  · rw [h] at hu; simp [Trm.cs] at hu; subst hu
    rw [show off + i = off + i / 4 * 4 + 2 by omega]; exact h2
  · rw [h] at hu; simp [Trm.cs] at hu; subst hu
    rw [show off + i = off + i / 4 * 4 + 3 by omega]; exact h3
/-- the first elements of a row are a row -/
theorem Row.cut {w : World} {B g cap n P : Nat} {R : List Trm} (h : Row w B (.slice (some ⟨g, 0, none⟩) n cap) R) (hP : P ≤ R.length) : Row w B (.slice (some ⟨g, 0, none⟩) P cap) (R.take P) := by
  have hl : (R.take P).length = P := by simp; omega
  rcases h.2 with ⟨h1, _⟩ | ⟨g', cap', cur, he, hb, hg, hn, hm, hs, ht⟩
  · cases h1
  · injection he with e1 e2 e3
    injection e1 with e1
    injection e1 with e1
    subst e1 e3
    refine ⟨by rw [flat_len], .inr ⟨g, cap, cur, by rw [hl], hb, hg, by omega, hm, hs, ?_⟩⟩
    rw [hl, ← flat_take R P, ← ht, List.take_take, Nat.min_eq_left (Nat.mul_le_mul_right _ hP)]
structure ASt (w : World) (B S n : Nat) (v0 u v : Value) (R : List Trm) (x : Trm) (wr : World) : Prop where
  mo : ModW wr S u
  row : Row wr B v R
  ne : v.ownBlock ≠ some S
  kp : Kept (fun k => k = S ∨ v0.ownBlock = some k) w wr
  pl : v.ownBlock = v0.ownBlock ∨ ∃ g, v.ownBlock = some g ∧ n < g
  bx : TAt wr n 0 x
  n1 : n < wr.heap.size
  hn : w.heap.size ≤ n
  hS : S < w.heap.size
  hB : B ≤ w.heap.size
  v0n : v0.ownBlock ≠ some n
section
variable {w wr : World} {B S n : Nat} {v0 u v : Value} {R : List Trm} {x : Trm}
theorem ASt.on (h : ASt w B S n v0 u v R x wr) {w' : World} (hb : Below wr.heap.size wr w') : ASt w B S n v0 u v R x w' :=
  ⟨h.mo.below hb, h.row.below hb, h.ne, h.kp.trans (Kept.of_below hb), h.pl, h.bx.below hb h.n1, Nat.lt_of_lt_of_le h.n1 hb.size, h.hn, h.hS, h.hB, h.v0n⟩
theorem ASt.turn (h : ASt w B S n v0 u v R x wr) {v' : Value} {R' : List Trm} (hr : Row wr B v' R') (hv : v'.ownBlock = v.ownBlock) : ASt w B S n v0 u v' R' x wr :=
  ⟨h.mo, hr, by rw [hv]; exact h.ne, h.kp, by rw [hv]; exact h.pl, h.bx, h.n1, h.hn, h.hS, h.hB, h.v0n⟩
theorem ASt.vn (h : ASt w B S n v0 u v R x wr) : v.ownBlock ≠ some n := by
  rcases h.pl with e | ⟨g, e, hg⟩
  · rw [e]; exact h.v0n
  · rw [e]; intro e; injection e with e; omega
theorem ASt.app (h : ASt w B S n v0 u v R x wr) {w' : World} {v' : Value} {R' : List Trm} (hr : Row w' B v' R') (hg : wr.grownBy w' v.ownBlock) (hat : v'.ownBlock = v.ownBlock ∨ v'.ownBlock = some wr.heap.size) : ASt w B S n v0 u v' R' x w' := by
  have hn1 := h.n1
  have eS := hg.block S h.mo.sz (fun e => h.ne e.symm)
  have en := hg.block n hn1 (fun e => h.vn e.symm)
  have hsz := h.mo.sz
  obtain ⟨b0, b1, b2, b3⟩ := h.bx
  refine ⟨⟨by rw [World.cell?_of_block (a := ⟨S, 0, none⟩) eS]; exact h.mo.c, by rw [World.frozen?_of_block (a := ⟨S, 0, none⟩) eS]; exact h.mo.f, Nat.lt_of_lt_of_le hsz hg.size⟩, hr, ?_, ?_, ?_,
    ⟨by rw [World.cell?_of_block (a := ⟨n, 0, none⟩) en]; exact b0, by rw [World.cell?_of_block (a := ⟨n, 0 + 1, none⟩) en]; exact b1, by rw [World.cell?_of_block (a := ⟨n, 0 + 2, none⟩) en]; exact b2, by rw [World.cell?_of_block (a := ⟨n, 0 + 3, none⟩) en]; exact b3⟩,
    Nat.lt_of_lt_of_le hn1 hg.size, h.hn, h.hS, h.hB, h.v0n⟩
  · rcases hat with e | e
    · rw [e]; exact h.ne
    · rw [e]; intro e; injection e with e; omega
  · refine ⟨hg.os.trans h.kp.os, hg.tape.trans h.kp.tape, hg.output.trans h.kp.output, Nat.le_trans h.kp.size hg.size, fun k hk hK => ?_⟩
    rw [hg.block k (Nat.lt_of_lt_of_le hk h.kp.size) (fun e => ?_)]
    · exact h.kp.block k hk hK
    · rcases h.pl with e2 | ⟨g, e2, hg2⟩
      · rw [e2] at e
        exact hK (.inr e.symm)
      · rw [e2] at e
        injection e with e
        have := h.hn
        omega
  · rcases hat with e | e
    · rw [e]; exact h.pl
    · exact .inr ⟨_, e, hn1⟩
theorem ASt.store (h : ASt w B S n v0 u v R x wr) : ASt w B S n v0 v v R x (wr.setCell ⟨S, 0, none⟩ v) := by
  have hSn : S ≠ n := by have := h.hS; have := h.hn; omega
  obtain ⟨b0, b1, b2, b3⟩ := h.bx
  refine ⟨⟨World.cell?_setCell_same _ _ _ h.mo.c, by rw [World.frozen?_setCell]; exact h.mo.f, by simpa using h.mo.sz⟩, World.ownsRow.kept (row := some S) h.row ⟨rfl, rfl, rfl, by simp, fun k hk hne => Below.heap_setCell _ _ _ _ (fun e => hne (by rw [e]))⟩ (.inr h.ne), h.ne,
    h.kp.set (.inl (.inl rfl)) _, h.pl, ⟨?_, ?_, ?_, ?_⟩, by simpa using h.n1, h.hn, h.hS, h.hB, h.v0n⟩
  · rw [World.cell?_setCell_other _ _ _ _ (fun e => hSn (congrArg Addr.block e))]; exact b0
  · rw [World.cell?_setCell_other _ _ _ _ (fun e => hSn (congrArg Addr.block e))]; exact b1
  · rw [World.cell?_setCell_other _ _ _ _ (fun e => hSn (congrArg Addr.block e))]; exact b2
  · rw [World.cell?_setCell_other _ _ _ _ (fun e => hSn (congrArg Addr.block e))]; exact b3
/-- what add hands back -/
theorem ASt.done (h : ASt w B S n v0 v v R x wr) : AddTo B S v0 R w (.returned (.tuple #[])) wr :=
  ⟨rfl, v, h.mo, h.row, h.ne, h.kp, by
    rcases h.pl with e | ⟨g, e, hg⟩
    · exact .inl e
    · exact .inr ⟨g, e, by have := h.hn; omega⟩⟩
end
/-- an append of what lies anywhere, at one operation -/
theorem wp_app_at {P : Program} {w : World} {o : Oper} {a : Act} {K : Act → World → Prop} {Q : Exit → Act → World → Prop} (s x : Operand) (t : TypeId)
    (ho : o.op = .call { callee := .builtin .append, args := #[s, x], argTypes := #[t, t] })
    (B : Nat) (e : TypeId) (i : TypeInfo) (z : Value) (size bytes : Nat) (ht : P.underlying t = some (.slice e)) (hi : P.info? e = some i) (hz : i.zero = some z)
    (hsize : i.size = size) (hby : i.bytes = bytes) (hzs : z.cells.size = size) (hsz : 0 < size)
    (v : Value) (n : Nat) (xs : List Value) (hs : a.eval s = v) (hown : w.ownsRow B e size v n xs)
    (ad : Addr) (m c : Nat) (news : List Value) (hx : a.eval x = .slice (some ad) m c) (hl : news.length = m * size) (hnews : ∀ j u, news[j]? = some u → w.cell? (ad.add j) = some u) (h1 : ∀ u ∈ news, u.oneCell' = true)
    (h63 : n + m ≤ maxLen) (hbytes : (n + m) * bytes ≤ 140737488355328) (hB : B ≤ w.heap.size)
    (h : ∀ v' w', w'.ownsRow B e size v' (n + m) (xs ++ news) → w.grownBy w' v.ownBlock → (v' = .slice none 0 0 ↔ v = .slice none 0 0 ∧ m = 0) → (v'.ownBlock = v.ownBlock ∨ v'.ownBlock = some w.heap.size) → K (a.put o.dst v') w') : o.wp P a w K Q := by
  obtain ⟨v', w', hr, q⟩ := run_append_own_at (P := P) w B t o.type e i z size bytes ht hi hz hsize hby hzs hsz v n xs hown ad m c news hl hnews h1 h63 hbytes hB
  have he : (execOp a.eval o).run P w = .ok (.value v') w' := by
    unfold execOp
    simp only [ho, resolve, invoke, builtin, Sem.run_bind, Sem.run_pure, Result.andThen_ok, List.map_toArray, List.map_cons, List.map_nil, hs, hx, hr]
  unfold Oper.wp
  rw [he]
  exact h _ _ q.1 q.2.1 q.2.2.1 q.2.2.2
end Go.Proofs.Ytfmpcniehgipfaa
namespace Go.Proofs.Ytfmpcniehgipfaa
open Go.RowKit
set_option maxRecDepth 100000 in
set_option maxHeartbeats 16000000 in
theorem sAddSome (B S g cap : Nat) (p : Int) (L : List Trm) (x : Trm) (w : World) (hS : ModW w S (.slice (some ⟨g, 0, none⟩) L.length cap)) (hR : Row w B (.slice (some ⟨g, 0, none⟩) L.length cap) L) (hl : L.length ≤ 4000) (hs : Srt L) (hgS : g ≠ S) (hp : isP p = true) (he : Els p L) (hx : 0 ≤ x.t ∧ x.t < p) (hB : B ≤ w.heap.size) :
    Calls Try.prog 96 #[.pointer (some ⟨S, 0, none⟩), .int .i64 p, .agg #[.int .i64 x.a, .int .i64 x.b, .int .i64 x.c, .int .i64 x.t]] w (AddTo B S (.slice (some ⟨g, 0, none⟩) L.length cap) (addT p x L) w) := by
  obtain ⟨i0, hi, hz0, hz1, hz2⟩ := info_parts infoT
  have HPR := Lib.hid hp
  have HEL := Lib.hid he
  have HXE := Lib.hid hx
  have HMO := Lib.hid hS
  have HRO := Lib.hid hR
  have HP := Lib.hid (And.intro (fun (j : Nat) (hj : j < L.length) (hp : plc x L ≤ j) => plc_ge hs hj hp) (fun (j : Nat) (hj : j < plc x L) => plc_lt hj))
  have hpl := plc_le x L
  obtain ⟨P, hPe⟩ : ∃ P, P = plc x L := ⟨_, rfl⟩
  rw [← hPe] at HP hpl
  have HPE := Lib.hid hPe
  obtain ⟨s0, sf, ssz⟩ := hS
  have hgw : g < w.heap.size := (World.ownsRow.lt hR g rfl).2
  clear hR hs hPe hp he hx
  go_enter Try.func96, Try.ntmps96
  go_wp2_with fail
  obtain ⟨W, hW⟩ : ∃ W, W = w.alloc (Obj.cells #[.int .i64 x.a, .int .i64 x.b, .int .i64 x.c, .int .i64 x.t] 91) := ⟨_, rfl⟩
  have hb0 : Below w.heap.size w W := by rw [hW]; exact Below.alloc (Below.refl _ _) (Nat.le_refl _) _
  have HW := Lib.hid (show AddW W w.heap.size S g cap L x from ⟨by rw [hW]; refine ⟨?_, ?_, ?_, ?_⟩ <;> simp [go_sem], HMO.out.below hb0, fun j hj => (HRO.out.below hb0).tat rfl hj, by rw [hW]; simp, by have := hb0.size; omega⟩)
  have HB0 := Lib.hid hb0
  rw [← hW]
  clear hW hb0 s0 sf
  go_loopg [6] P (fun gk i wr => ∃ k : Nat, k ≤ P ∧ gk = P - k ∧ i = .int .i64 k ∧ Below W.heap.size W wr)
  case atStart => exact ⟨0, by omega, by omega, rfl, Below.refl _ _⟩
  case round =>
    obtain ⟨k, hk, hgk, rfl, hb⟩ := hrel
    have HWr := Lib.hid (HW.out.below hb)
    have Hb := Lib.hid hb
    clear hb
    have HF := Lib.hid (show ∀ w', Below wr.heap.size wr w' → w'.cell? ⟨S, 0, none⟩ = some (.slice (some ⟨g, 0, none⟩) L.length cap) ∧ TAt w' w.heap.size 0 x ∧ ∀ j : Nat, j < L.length → TAt w' g (j * 4) (L.getD j default) from
      fun w' hb => by have q := HWr.out.below hb; exact ⟨q.mo.c, q.bx, q.row⟩)
    go_upto_region 2 with fail
    go_cut [29] from 10 to 28 (fun s w' => s = .bool (decide (k < P)) ∧ Below wr.heap.size wr w')
    case first =>
      as_aux_lemma =>
        by_cases hlt : k < L.length
        · have hkp : (k : Int) < (L.length : Int) := by omega
          have hk0 : (0 : Int) ≤ (k : Int) := by omega
          obtain ⟨y, hy⟩ : ∃ y, y = L.getD k default := ⟨_, rfl⟩
          have HG := Lib.hid (show ∀ w', Below wr.heap.size wr w' → TAt w' g (k * 4) y from fun w' hb => by rw [hy]; exact (HF.out w' hb).2.2 k hlt)
          have HYP := Lib.hid (show (bef y x = true → k < P) ∧ (bef y x = false → P ≤ k) by
            rw [hy]
            refine ⟨fun h => Nat.lt_of_not_le fun hle => ?_, fun h => Nat.le_of_not_lt fun hle => ?_⟩
            · have := HP.out.1 k hlt hle; rw [h] at this; cases this
            · have := HP.out.2 k hle; rw [h] at this; cases this)
          clear hy
          rcases Bool.eq_false_or_eq_true (befB y.a y.b y.c x.a x.b x.c) with h3 | h3
          · have H3 := Lib.hid h3
            clear h3
            refine wp_region_below (by kernel_rfl) (by kernel_rfl) ?_
            (with_reducible refine wpQuiet_yes ?_ ?_; (focus (kernel_rfl)); intro K hK; go_simp; refine ⟨_, fun _ _ => rfl, ?_⟩; with_reducible refine hK _ ?_; clear hK K)
            (with_reducible refine wpQuiet_yes ?_ ?_; (focus (kernel_rfl)); intro K hK; go_simp; refine ⟨_, fun _ _ => rfl, ?_⟩; with_reducible refine hK _ ?_; clear hK K)
            (with_reducible refine wpQuiet_yes ?_ ?_; (focus (kernel_rfl)); intro K hK; go_simp; refine ⟨_, fun _ _ => rfl, ?_⟩; with_reducible refine hK _ ?_; clear hK K)
            (with_reducible refine wpQuiet_yes ?_ ?_; (focus (kernel_rfl)); intro K hK; go_simp; refine ⟨_, fun _ _ => rfl, ?_⟩; with_reducible refine hK _ ?_; clear hK K)
            (with_reducible refine wpQuiet_yes ?_ ?_; (focus (kernel_rfl)); intro K hK; go_simp; refine ⟨(.slice (some ⟨g, 0, none⟩) L.length cap), ?_, ?_⟩; rotate_left; with_reducible refine hK _ ?_; clear hK K; rotate_left)
            · intro w' hw
              simp only [(HF.out w' hw).1, go_sem, Result.andThen, and_self]
            (with_reducible refine wpQuiet_yes ?_ ?_; (focus (kernel_rfl)); intro K hK; go_simp; refine ⟨_, fun _ _ => rfl, ?_⟩; with_reducible refine hK _ ?_; clear hK K)
            (with_reducible refine wpQuiet_yes ?_ ?_; (focus (kernel_rfl)); intro K hK; go_simp; refine ⟨(.bool true), ?_, ?_⟩; rotate_left; with_reducible refine hK _ ?_; clear hK K; rotate_left)
            · intro w' hw
              simp
              try omega
            (with_reducible refine wpQuiet_yes ?_ ?_; (focus (kernel_rfl)); intro K hK; go_simp; refine ⟨_, fun _ _ => rfl, ?_⟩; with_reducible refine hK _ ?_; clear hK K)
            (with_reducible refine wpQuiet_yes ?_ ?_; (focus (kernel_rfl)); intro K hK; go_simp; refine ⟨_, fun _ _ => rfl, ?_⟩; with_reducible refine hK _ ?_; clear hK K)
            (with_reducible refine wpQuiet_yes ?_ ?_; (focus (kernel_rfl)); intro K hK; go_simp; refine ⟨_, fun _ _ => rfl, ?_⟩; with_reducible refine hK _ ?_; clear hK K)
            (with_reducible refine wpQuiet_yes ?_ ?_; (focus (kernel_rfl)); intro K hK; go_simp; refine ⟨_, fun _ _ => rfl, ?_⟩; with_reducible refine hK _ ?_; clear hK K)
            (with_reducible refine wpQuiet_yes ?_ ?_; (focus (kernel_rfl)); intro K hK; go_simp; refine ⟨(.slice (some ⟨g, 0, none⟩) L.length cap), ?_, ?_⟩; rotate_left; with_reducible refine hK _ ?_; clear hK K; rotate_left)
            · intro w' hw
              simp only [(HF.out w' hw).1, go_sem, Result.andThen, and_self]
            (with_reducible refine wpQuiet_yes ?_ ?_; (focus (kernel_rfl)); intro K hK; go_simp; refine ⟨_, fun _ _ => rfl, ?_⟩; with_reducible refine hK _ ?_; clear hK K)
            (with_reducible refine wpQuiet_yes ?_ ?_; (focus (kernel_rfl)); intro K hK; go_simp; refine ⟨_, fun _ _ => rfl, ?_⟩; with_reducible refine hK _ ?_; clear hK K)
            (with_reducible refine wpQuiet_yes ?_ ?_; (focus (kernel_rfl)); intro K hK; go_simp; refine ⟨_, fun _ _ => rfl, ?_⟩; with_reducible refine hK _ ?_; clear hK K)
            (with_reducible refine wpQuiet_yes ?_ ?_; (focus (kernel_rfl)); intro K hK; go_simp; refine ⟨(.agg #[.int .i64 y.a, .int .i64 y.b, .int .i64 y.c]), ?_, ?_⟩; rotate_left; with_reducible refine hK _ ?_; clear hK K; rotate_left)
            · intro w' hw
              obtain ⟨c0, c1, c2, c3⟩ := HG.out w' hw
              simp only [c0, c1, c2, go_sem, Result.andThen, and_self]
            (with_reducible refine wpQuiet_yes ?_ ?_; (focus (kernel_rfl)); intro K hK; go_simp; refine ⟨_, fun _ _ => rfl, ?_⟩; with_reducible refine hK _ ?_; clear hK K)
            (with_reducible refine wpQuiet_yes ?_ ?_; (focus (kernel_rfl)); intro K hK; go_simp; refine ⟨(.agg #[.int .i64 x.a, .int .i64 x.b, .int .i64 x.c]), ?_, ?_⟩; rotate_left; with_reducible refine hK _ ?_; clear hK K; rotate_left)
            · intro w' hw
              obtain ⟨c0, c1, c2, c3⟩ := (HF.out w' hw).2.1
              simp only [Nat.zero_add] at c0 c1 c2
              simp only [c0, c1, c2, go_sem, Result.andThen, and_self]
            (with_reducible refine wpQuiet_yes ?_ ?_; (focus (kernel_rfl)); intro K hK; go_simp; refine ⟨(.bool true), ?_, ?_⟩; rotate_left; with_reducible refine hK _ ?_; clear hK K; rotate_left)
            · intro w' hw
              exact (sBef_is true _ _ _ _ _ _ H3.out _).mono fun e w'' ⟨he, h⟩ => ⟨he, h.below' (Below.alloc (Below.alloc hw hw.size _) (by simpa using Nat.le_succ_of_le hw.size) _)⟩
            (with_reducible refine wpQuiet_yes ?_ ?_; (focus (kernel_rfl)); intro K hK; go_simp; refine ⟨_, fun _ _ => rfl, ?_⟩; with_reducible refine hK _ ?_; clear hK K)
            refine wpQuiet_nil fun w2 hb2 => ?_
            have Hb2 := Lib.hid hb2
            clear hb2
            simp only [Exit.then]
            go_wp2_with fail
            go_meet
            case rel =>
              have e : k < P := HYP.out.1 H3.out
              exact ⟨by rw [decide_eq_true e], Hb2.out⟩
          · have H3 := Lib.hid h3
            clear h3
            refine wp_region_below (by kernel_rfl) (by kernel_rfl) ?_
            (with_reducible refine wpQuiet_yes ?_ ?_; (focus (kernel_rfl)); intro K hK; go_simp; refine ⟨_, fun _ _ => rfl, ?_⟩; with_reducible refine hK _ ?_; clear hK K)
            (with_reducible refine wpQuiet_yes ?_ ?_; (focus (kernel_rfl)); intro K hK; go_simp; refine ⟨_, fun _ _ => rfl, ?_⟩; with_reducible refine hK _ ?_; clear hK K)
            (with_reducible refine wpQuiet_yes ?_ ?_; (focus (kernel_rfl)); intro K hK; go_simp; refine ⟨_, fun _ _ => rfl, ?_⟩; with_reducible refine hK _ ?_; clear hK K)
            (with_reducible refine wpQuiet_yes ?_ ?_; (focus (kernel_rfl)); intro K hK; go_simp; refine ⟨_, fun _ _ => rfl, ?_⟩; with_reducible refine hK _ ?_; clear hK K)
            (with_reducible refine wpQuiet_yes ?_ ?_; (focus (kernel_rfl)); intro K hK; go_simp; refine ⟨(.slice (some ⟨g, 0, none⟩) L.length cap), ?_, ?_⟩; rotate_left; with_reducible refine hK _ ?_; clear hK K; rotate_left)
            · intro w' hw
              simp only [(HF.out w' hw).1, go_sem, Result.andThen, and_self]
            (with_reducible refine wpQuiet_yes ?_ ?_; (focus (kernel_rfl)); intro K hK; go_simp; refine ⟨_, fun _ _ => rfl, ?_⟩; with_reducible refine hK _ ?_; clear hK K)
            (with_reducible refine wpQuiet_yes ?_ ?_; (focus (kernel_rfl)); intro K hK; go_simp; refine ⟨(.bool true), ?_, ?_⟩; rotate_left; with_reducible refine hK _ ?_; clear hK K; rotate_left)
            · intro w' hw
              simp
              try omega
            (with_reducible refine wpQuiet_yes ?_ ?_; (focus (kernel_rfl)); intro K hK; go_simp; refine ⟨_, fun _ _ => rfl, ?_⟩; with_reducible refine hK _ ?_; clear hK K)
            (with_reducible refine wpQuiet_yes ?_ ?_; (focus (kernel_rfl)); intro K hK; go_simp; refine ⟨_, fun _ _ => rfl, ?_⟩; with_reducible refine hK _ ?_; clear hK K)
            (with_reducible refine wpQuiet_yes ?_ ?_; (focus (kernel_rfl)); intro K hK; go_simp; refine ⟨_, fun _ _ => rfl, ?_⟩; with_reducible refine hK _ ?_; clear hK K)
            (with_reducible refine wpQuiet_yes ?_ ?_; (focus (kernel_rfl)); intro K hK; go_simp; refine ⟨_, fun _ _ => rfl, ?_⟩; with_reducible refine hK _ ?_; clear hK K)
            (with_reducible refine wpQuiet_yes ?_ ?_; (focus (kernel_rfl)); intro K hK; go_simp; refine ⟨(.slice (some ⟨g, 0, none⟩) L.length cap), ?_, ?_⟩; rotate_left; with_reducible refine hK _ ?_; clear hK K; rotate_left)
            · intro w' hw
              simp only [(HF.out w' hw).1, go_sem, Result.andThen, and_self]
            (with_reducible refine wpQuiet_yes ?_ ?_; (focus (kernel_rfl)); intro K hK; go_simp; refine ⟨_, fun _ _ => rfl, ?_⟩; with_reducible refine hK _ ?_; clear hK K)
            (with_reducible refine wpQuiet_yes ?_ ?_; (focus (kernel_rfl)); intro K hK; go_simp; refine ⟨_, fun _ _ => rfl, ?_⟩; with_reducible refine hK _ ?_; clear hK K)
            (with_reducible refine wpQuiet_yes ?_ ?_; (focus (kernel_rfl)); intro K hK; go_simp; refine ⟨_, fun _ _ => rfl, ?_⟩; with_reducible refine hK _ ?_; clear hK K)
            (with_reducible refine wpQuiet_yes ?_ ?_; (focus (kernel_rfl)); intro K hK; go_simp; refine ⟨(.agg #[.int .i64 y.a, .int .i64 y.b, .int .i64 y.c]), ?_, ?_⟩; rotate_left; with_reducible refine hK _ ?_; clear hK K; rotate_left)
            · intro w' hw
              obtain ⟨c0, c1, c2, c3⟩ := HG.out w' hw
              simp only [c0, c1, c2, go_sem, Result.andThen, and_self]
            (with_reducible refine wpQuiet_yes ?_ ?_; (focus (kernel_rfl)); intro K hK; go_simp; refine ⟨_, fun _ _ => rfl, ?_⟩; with_reducible refine hK _ ?_; clear hK K)
            (with_reducible refine wpQuiet_yes ?_ ?_; (focus (kernel_rfl)); intro K hK; go_simp; refine ⟨(.agg #[.int .i64 x.a, .int .i64 x.b, .int .i64 x.c]), ?_, ?_⟩; rotate_left; with_reducible refine hK _ ?_; clear hK K; rotate_left)
            · intro w' hw
              obtain ⟨c0, c1, c2, c3⟩ := (HF.out w' hw).2.1
              simp only [Nat.zero_add] at c0 c1 c2
              simp only [c0, c1, c2, go_sem, Result.andThen, and_self]
            (with_reducible refine wpQuiet_yes ?_ ?_; (focus (kernel_rfl)); intro K hK; go_simp; refine ⟨(.bool false), ?_, ?_⟩; rotate_left; with_reducible refine hK _ ?_; clear hK K; rotate_left)
            · intro w' hw
              exact (sBef_is false _ _ _ _ _ _ H3.out _).mono fun e w'' ⟨he, h⟩ => ⟨he, h.below' (Below.alloc (Below.alloc hw hw.size _) (by simpa using Nat.le_succ_of_le hw.size) _)⟩
            (with_reducible refine wpQuiet_yes ?_ ?_; (focus (kernel_rfl)); intro K hK; go_simp; refine ⟨_, fun _ _ => rfl, ?_⟩; with_reducible refine hK _ ?_; clear hK K)
            refine wpQuiet_nil fun w2 hb2 => ?_
            have Hb2 := Lib.hid hb2
            clear hb2
            simp only [Exit.then]
            go_wp2_with fail
            go_meet
            case rel =>
              have e : ¬ k < P := by have := HYP.out.2 H3.out; omega
              exact ⟨by rw [decide_eq_false e], Hb2.out⟩
        · have hkl : ¬ (k : Int) < (L.length : Int) := by omega
          refine wp_region_below (by kernel_rfl) (by kernel_rfl) ?_
          (with_reducible refine wpQuiet_yes ?_ ?_; (focus (kernel_rfl)); intro K hK; go_simp; refine ⟨_, fun _ _ => rfl, ?_⟩; with_reducible refine hK _ ?_; clear hK K)
          (with_reducible refine wpQuiet_yes ?_ ?_; (focus (kernel_rfl)); intro K hK; go_simp; refine ⟨_, fun _ _ => rfl, ?_⟩; with_reducible refine hK _ ?_; clear hK K)
          (with_reducible refine wpQuiet_yes ?_ ?_; (focus (kernel_rfl)); intro K hK; go_simp; refine ⟨_, fun _ _ => rfl, ?_⟩; with_reducible refine hK _ ?_; clear hK K)
          (with_reducible refine wpQuiet_yes ?_ ?_; (focus (kernel_rfl)); intro K hK; go_simp; refine ⟨_, fun _ _ => rfl, ?_⟩; with_reducible refine hK _ ?_; clear hK K)
          (with_reducible refine wpQuiet_yes ?_ ?_; (focus (kernel_rfl)); intro K hK; go_simp; refine ⟨(.slice (some ⟨g, 0, none⟩) L.length cap), ?_, ?_⟩; rotate_left; with_reducible refine hK _ ?_; clear hK K; rotate_left)
          · intro w' hw
            simp only [(HF.out w' hw).1, go_sem, Result.andThen, and_self]
          (with_reducible refine wpQuiet_yes ?_ ?_; (focus (kernel_rfl)); intro K hK; go_simp; refine ⟨_, fun _ _ => rfl, ?_⟩; with_reducible refine hK _ ?_; clear hK K)
          (with_reducible refine wpQuiet_yes ?_ ?_; (focus (kernel_rfl)); intro K hK; go_simp; refine ⟨(.bool false), ?_, ?_⟩; rotate_left; with_reducible refine hK _ ?_; clear hK K; rotate_left)
          · intro w' hw
            simp
            try omega
          (with_reducible refine wpQuiet_yes ?_ ?_; (focus (kernel_rfl)); intro K hK; go_simp; refine ⟨_, fun _ _ => rfl, ?_⟩; with_reducible refine hK _ ?_; clear hK K)
          iterate 11 (with_reducible refine wpQuiet_no ?_ ?_; (focus (kernel_rfl)); intro K hK; go_simp; with_reducible refine hK _ ?_; clear hK K)
          (with_reducible refine wpQuiet_yes ?_ ?_; (focus (kernel_rfl)); intro K hK; go_simp; refine ⟨_, fun _ _ => rfl, ?_⟩; with_reducible refine hK _ ?_; clear hK K)
          refine wpQuiet_nil fun w2 hb2 => ?_
          have Hb2 := Lib.hid hb2
          clear hb2
          simp only [Exit.then]
          go_wp2_with fail
          go_meet
          case rel =>
            have e : ¬ k < P := by omega
            exact ⟨by rw [decide_eq_false e], Hb2.out⟩
    case rest =>
      obtain ⟨rfl, hb2⟩ := hcut
      have HB2 := Lib.hid (Hb.out.trans (hb2.mono Hb.out.size))
      have HW2 := Lib.hid (HWr.out.below hb2)
      clear hb2 HF Hb HWr
      by_cases hkP : k < P
      · rw [decide_eq_true hkP]
        go_wp2_with fail
        go_roundg (P - (k + 1))
        case rel => exact ⟨k + 1, by omega, rfl, by go_num, HB2.out⟩
        case measure => omega
      · rw [decide_eq_false hkP]
        have e : k = P := by omega
        subst e
        clear hkP hk hgk
        by_cases hx0 : x.t = 0
        · have HX0 := Lib.hid hx0
          obtain ⟨t0, t1, t2, t3⟩ := HW2.out.bx
          simp only [Nat.zero_add] at t0 t1 t2 t3
          have hlow : Below w.heap.size w wc := HB0.out.trans (HB2.out.mono HB0.out.size)
          have HLO := Lib.hid hlow
          clear hlow
          go_wp2_with fail
          refine bodyPost_ret (v := .tuple #[]) (by simp [results, Try.results96, go_sem]) rfl ⟨rfl, _, HMO.out.below HLO.out, by rw [addT_zero0 HX0.out]; exact HRO.out.below HLO.out, by simp [Value.ownBlock]; exact hgS, Kept.of_below HLO.out, .inl rfl⟩
        · have HX0 := Lib.hid hx0
          have hxe : (x.t == 0) = false := by simp [hx0]
          clear hx0
          obtain ⟨t0, t1, t2, t3⟩ := HW2.out.bx
          simp only [Nat.zero_add] at t0 t1 t2 t3
          have HF := Lib.hid (show ∀ w', Below wc.heap.size wc w' → w'.cell? ⟨S, 0, none⟩ = some (.slice (some ⟨g, 0, none⟩) L.length cap) ∧ TAt w' w.heap.size 0 x ∧ ∀ j : Nat, j < L.length → TAt w' g (j * 4) (L.getD j default) from
            fun w' hb => by have q := HW2.out.below hb; exact ⟨q.mo.c, q.bx, q.row⟩)
          go_upto_region 7 with fail
          clear t0 t1 t2 t3
          go_cut [58] from 59 to 78 (fun s w' => s = .bool (hit x L) ∧ Below wc.heap.size wc w')
          case first =>
            as_aux_lemma =>
              by_cases hlt : k < L.length
              · have hkp : (k : Int) < (L.length : Int) := by omega
                have hk0 : (0 : Int) ≤ (k : Int) := by omega
                obtain ⟨y, hy⟩ : ∃ y, y = L.getD k default := ⟨_, rfl⟩
                have HG := Lib.hid (show ∀ w', Below wc.heap.size wc w' → TAt w' g (k * 4) y from fun w' hb => by rw [hy]; exact (HF.out w' hb).2.2 k hlt)
                have HH := Lib.hid (show (y.a == x.a && y.b == x.b && y.c == x.c) = hit x L by unfold hit; rw [← HPE.out, ← hy]; simp [hlt, samB])
                clear hy
                refine wp_region_below (by kernel_rfl) (by kernel_rfl) ?_
                (with_reducible refine wpQuiet_yes ?_ ?_; (focus (kernel_rfl)); intro K hK; go_simp; refine ⟨_, fun _ _ => rfl, ?_⟩; with_reducible refine hK _ ?_; clear hK K)
                (with_reducible refine wpQuiet_yes ?_ ?_; (focus (kernel_rfl)); intro K hK; go_simp; refine ⟨_, fun _ _ => rfl, ?_⟩; with_reducible refine hK _ ?_; clear hK K)
                (with_reducible refine wpQuiet_yes ?_ ?_; (focus (kernel_rfl)); intro K hK; go_simp; refine ⟨_, fun _ _ => rfl, ?_⟩; with_reducible refine hK _ ?_; clear hK K)
                (with_reducible refine wpQuiet_yes ?_ ?_; (focus (kernel_rfl)); intro K hK; go_simp; refine ⟨_, fun _ _ => rfl, ?_⟩; with_reducible refine hK _ ?_; clear hK K)
                (with_reducible refine wpQuiet_yes ?_ ?_; (focus (kernel_rfl)); intro K hK; go_simp; refine ⟨(.slice (some ⟨g, 0, none⟩) L.length cap), ?_, ?_⟩; rotate_left; with_reducible refine hK _ ?_; clear hK K; rotate_left)
                · intro w' hw
                  simp only [(HF.out w' hw).1, go_sem, Result.andThen, and_self]
                (with_reducible refine wpQuiet_yes ?_ ?_; (focus (kernel_rfl)); intro K hK; go_simp; refine ⟨_, fun _ _ => rfl, ?_⟩; with_reducible refine hK _ ?_; clear hK K)
                (with_reducible refine wpQuiet_yes ?_ ?_; (focus (kernel_rfl)); intro K hK; go_simp; refine ⟨(.bool true), ?_, ?_⟩; rotate_left; with_reducible refine hK _ ?_; clear hK K; rotate_left)
                · intro w' hw
                  simp
                  try omega
                (with_reducible refine wpQuiet_yes ?_ ?_; (focus (kernel_rfl)); intro K hK; go_simp; refine ⟨_, fun _ _ => rfl, ?_⟩; with_reducible refine hK _ ?_; clear hK K)
                (with_reducible refine wpQuiet_yes ?_ ?_; (focus (kernel_rfl)); intro K hK; go_simp; refine ⟨_, fun _ _ => rfl, ?_⟩; with_reducible refine hK _ ?_; clear hK K)
                (with_reducible refine wpQuiet_yes ?_ ?_; (focus (kernel_rfl)); intro K hK; go_simp; refine ⟨_, fun _ _ => rfl, ?_⟩; with_reducible refine hK _ ?_; clear hK K)
                (with_reducible refine wpQuiet_yes ?_ ?_; (focus (kernel_rfl)); intro K hK; go_simp; refine ⟨_, fun _ _ => rfl, ?_⟩; with_reducible refine hK _ ?_; clear hK K)
                (with_reducible refine wpQuiet_yes ?_ ?_; (focus (kernel_rfl)); intro K hK; go_simp; refine ⟨(.slice (some ⟨g, 0, none⟩) L.length cap), ?_, ?_⟩; rotate_left; with_reducible refine hK _ ?_; clear hK K; rotate_left)
                · intro w' hw
                  simp only [(HF.out w' hw).1, go_sem, Result.andThen, and_self]
                (with_reducible refine wpQuiet_yes ?_ ?_; (focus (kernel_rfl)); intro K hK; go_simp; refine ⟨_, fun _ _ => rfl, ?_⟩; with_reducible refine hK _ ?_; clear hK K)
                (with_reducible refine wpQuiet_yes ?_ ?_; (focus (kernel_rfl)); intro K hK; go_simp; refine ⟨_, fun _ _ => rfl, ?_⟩; with_reducible refine hK _ ?_; clear hK K)
                (with_reducible refine wpQuiet_yes ?_ ?_; (focus (kernel_rfl)); intro K hK; go_simp; refine ⟨_, fun _ _ => rfl, ?_⟩; with_reducible refine hK _ ?_; clear hK K)
                (with_reducible refine wpQuiet_yes ?_ ?_; (focus (kernel_rfl)); intro K hK; go_simp; refine ⟨(.agg #[.int .i64 y.a, .int .i64 y.b, .int .i64 y.c]), ?_, ?_⟩; rotate_left; with_reducible refine hK _ ?_; clear hK K; rotate_left)
                · intro w' hw
                  obtain ⟨c0, c1, c2, c3⟩ := HG.out w' hw
                  simp only [c0, c1, c2, go_sem, Result.andThen, and_self]
                (with_reducible refine wpQuiet_yes ?_ ?_; (focus (kernel_rfl)); intro K hK; go_simp; refine ⟨_, fun _ _ => rfl, ?_⟩; with_reducible refine hK _ ?_; clear hK K)
                (with_reducible refine wpQuiet_yes ?_ ?_; (focus (kernel_rfl)); intro K hK; go_simp; refine ⟨(.agg #[.int .i64 x.a, .int .i64 x.b, .int .i64 x.c]), ?_, ?_⟩; rotate_left; with_reducible refine hK _ ?_; clear hK K; rotate_left)
                · intro w' hw
                  obtain ⟨c0, c1, c2, c3⟩ := (HF.out w' hw).2.1
                  simp only [Nat.zero_add] at c0 c1 c2
                  simp only [c0, c1, c2, go_sem, Result.andThen, and_self]
                (with_reducible refine wpQuiet_yes ?_ ?_; (focus (kernel_rfl)); intro K hK; go_simp; refine ⟨(.bool (hit x L)), ?_, ?_⟩; rotate_left; with_reducible refine hK _ ?_; clear hK K; rotate_left)
                · intro w' hw
                  have hq := runEqA_is (hit x L) _ _ _ _ _ _ HH.out w'
                  simp only [hq, go_sem, Result.andThen, and_self]
                (with_reducible refine wpQuiet_yes ?_ ?_; (focus (kernel_rfl)); intro K hK; go_simp; refine ⟨_, fun _ _ => rfl, ?_⟩; with_reducible refine hK _ ?_; clear hK K)
                (with_reducible refine wpQuiet_yes ?_ ?_; (focus (kernel_rfl)); intro K hK; go_simp; refine ⟨_, fun _ _ => rfl, ?_⟩; with_reducible refine hK _ ?_; clear hK K)
                refine wpQuiet_nil fun w2 hb2 => ?_
                have Hb2 := Lib.hid hb2
                clear hb2
                simp only [Exit.then]
                go_wp2_with fail
                go_meet
                case rel => exact ⟨rfl, Hb2.out⟩
              · have HH := Lib.hid (show hit x L = false by unfold hit; rw [← HPE.out]; simp [hlt])
                have hkl : ¬ (k : Int) < (L.length : Int) := by omega
                refine wp_region_below (by kernel_rfl) (by kernel_rfl) ?_
                (with_reducible refine wpQuiet_yes ?_ ?_; (focus (kernel_rfl)); intro K hK; go_simp; refine ⟨_, fun _ _ => rfl, ?_⟩; with_reducible refine hK _ ?_; clear hK K)
                (with_reducible refine wpQuiet_yes ?_ ?_; (focus (kernel_rfl)); intro K hK; go_simp; refine ⟨_, fun _ _ => rfl, ?_⟩; with_reducible refine hK _ ?_; clear hK K)
                (with_reducible refine wpQuiet_yes ?_ ?_; (focus (kernel_rfl)); intro K hK; go_simp; refine ⟨_, fun _ _ => rfl, ?_⟩; with_reducible refine hK _ ?_; clear hK K)
                (with_reducible refine wpQuiet_yes ?_ ?_; (focus (kernel_rfl)); intro K hK; go_simp; refine ⟨_, fun _ _ => rfl, ?_⟩; with_reducible refine hK _ ?_; clear hK K)
                (with_reducible refine wpQuiet_yes ?_ ?_; (focus (kernel_rfl)); intro K hK; go_simp; refine ⟨(.slice (some ⟨g, 0, none⟩) L.length cap), ?_, ?_⟩; rotate_left; with_reducible refine hK _ ?_; clear hK K; rotate_left)
                · intro w' hw
                  simp only [(HF.out w' hw).1, go_sem, Result.andThen, and_self]
                (with_reducible refine wpQuiet_yes ?_ ?_; (focus (kernel_rfl)); intro K hK; go_simp; refine ⟨_, fun _ _ => rfl, ?_⟩; with_reducible refine hK _ ?_; clear hK K)
                (with_reducible refine wpQuiet_yes ?_ ?_; (focus (kernel_rfl)); intro K hK; go_simp; refine ⟨(.bool false), ?_, ?_⟩; rotate_left; with_reducible refine hK _ ?_; clear hK K; rotate_left)
                · intro w' hw
                  simp
                  try omega
                (with_reducible refine wpQuiet_yes ?_ ?_; (focus (kernel_rfl)); intro K hK; go_simp; refine ⟨_, fun _ _ => rfl, ?_⟩; with_reducible refine hK _ ?_; clear hK K)
                iterate 11 (with_reducible refine wpQuiet_no ?_ ?_; (focus (kernel_rfl)); intro K hK; go_simp; with_reducible refine hK _ ?_; clear hK K)
                (with_reducible refine wpQuiet_yes ?_ ?_; (focus (kernel_rfl)); intro K hK; go_simp; refine ⟨_, fun _ _ => rfl, ?_⟩; with_reducible refine hK _ ?_; clear hK K)
                (with_reducible refine wpQuiet_yes ?_ ?_; (focus (kernel_rfl)); intro K hK; go_simp; refine ⟨_, fun _ _ => rfl, ?_⟩; with_reducible refine hK _ ?_; clear hK K)
                refine wpQuiet_nil fun w2 hb2 => ?_
                have Hb2 := Lib.hid hb2
                clear hb2
                simp only [Exit.then]
                go_wp2_with fail
                go_meet
                case rel => exact ⟨by rw [HH.out], Hb2.out⟩
          case rest =>
            as_aux_lemma =>
              obtain ⟨rfl, hb3⟩ := hcut
              have hB3 : Below w.heap.size w wc := HB0.out.trans ((HB2.out.trans (hb3.mono HB2.out.size)).mono HB0.out.size)
              have HW3 := HW2.out.below hb3
              have A0 : ASt w B S w.heap.size (.slice (some ⟨g, 0, none⟩) L.length cap) (.slice (some ⟨g, 0, none⟩) L.length cap) (.slice (some ⟨g, 0, none⟩) L.length cap) L x wc :=
                ⟨HW3.mo, HRO.out.below hB3, by simp [Value.ownBlock]; exact hgS, Kept.of_below hB3, .inl rfl, HW3.bx, HW3.n1, Nat.le_refl _, ssz, hB, by simp [Value.ownBlock]; omega⟩
              have hcapL : L.length ≤ cap := by
                rcases (HRO.out.below hB3).shape with ⟨h1, _⟩ | ⟨g', c', h1, _, _, h2, _⟩
                · cases h1
                · injection h1 with h1 h2' h3; omega
              obtain ⟨p2, p13⟩ := isP_bd HPR.out
              have HA0 := Lib.hid A0
              obtain ⟨s0, sf, ssz2⟩ := HW3.mo
              obtain ⟨t0, t1, t2, t3⟩ := HW3.bx
              simp only [Nat.zero_add] at t0 t1 t2 t3
              have HRD := Lib.hid HW3.row
              clear HF HB2 HW2 HB0 HW hb3 hB3 HW3 A0
              rcases Bool.eq_false_or_eq_true (hit x L) with hh | hh
              · have hk : k < L.length := by
                  unfold hit at hh
                  rw [← HPE.out] at hh
                  simp at hh
                  exact hh.1
                have hkp : (k : Int) < (L.length : Int) := by omega
                have hk0 : (0 : Int) ≤ (k : Int) := by omega
                have hk1 : (k : Int) + 1 ≤ (L.length : Int) := by omega
                have hk1' : (0 : Int) ≤ (k : Int) + 1 := by omega
                have hkw : IntKind.i64.wrap ((k : Int) + 1) = (k : Int) + 1 := IntWalk.i64_in _ (by omega)
                have hkc : (k : Int) ≤ (cap : Int) := by omega
                have hkc1 : (k : Int) + 1 ≤ (cap : Int) := by omega
                have hLc : (L.length : Int) ≤ (cap : Int) := by omega
                obtain ⟨y, hy⟩ : ∃ y, y = L.getD k default := ⟨_, rfl⟩
                have hye := HEL.out y (by rw [hy, List.getD_eq_getElem?_getD, List.getElem?_eq_getElem hk]; simp)
                obtain ⟨y0, y1, y2, y3⟩ := HRD.out k hk
                rw [← hy] at y0 y1 y2 y3
                have hxe2 := HXE.out
                have hw : IntKind.i64.wrap (y.t + x.t) = y.t + x.t := IntWalk.i64_in _ (by omega)
                have hq0 : 0 ≤ y.t + x.t := by omega
                have hm0 : 0 ≤ (y.t + x.t) % p := Int.emod_nonneg _ (by omega)
                have hm1 : (y.t + x.t) % p < p := Int.emod_lt_of_pos _ (by omega)
                have HH := Lib.hid hh
                have HY := Lib.hid hy
                rw [hh]
                clear hh hy
                go_wp2_with fail
                go_quiet (fail)
                obtain ⟨W1, hW1⟩ : ∃ W, W = wc.drewN nq := ⟨_, rfl⟩
                rw [← hW1]
                have b1 : Below wc.heap.size wc W1 := by rw [hW1]; exact below_drewN (Below.refl _ _) nq
                have HA1 := Lib.hid (HA0.out.on b1)
                have HRD1 := Lib.hid (fun (j : Nat) (hj : j < L.length) => (HRD.out j hj).below b1 (World.ownsRow.lt HA0.out.row g rfl).2 : ∀ j : Nat, j < L.length → TAt W1 g (j * 4) (L.getD j default))
                clear s0 sf ssz2 t0 t1 t2 t3 y0 y1 y2 y3 b1 hW1 hw HRD HA0
                obtain ⟨s0, sf, ssz2⟩ := HA1.out.mo
                have HL0 := Lib.hid (Row.lit0 W1 W1.heap.size (Nat.le_refl _))
                have hg1 : g < W1.heap.size := (World.ownsRow.lt HA1.out.row g rfl).2
                go_upto_region 9 with fail
                go_cut [8] from 92 to 100 (fun s w' => Row w' W1.heap.size s (L.drop (k + 1)) ∧ s ≠ .slice none 0 0 ∧ Below W1.heap.size W1 w')
                case first =>
                  as_aux_lemma =>
                    by_cases hce : cap = k + 1
                    · have hLk : L.length = k + 1 := by omega
                      have hd0 : L.drop (k + 1) = [] := by simp; omega
                      have HD0 := Lib.hid hd0
                      have hc0 : cap - (k + 1) = 0 := by omega
                      have hl0 : L.length - (k + 1) = 0 := by omega
                      have HLK := Lib.hid hLk
                      have HCE := Lib.hid hce
                      clear hLk hce hd0
                      go_wp2_with (at_builtin; refine wpList_append_own_at _ rfl _ _ 40 rfl W1.heap.size 91 i0 (.agg #[.int .i64 0, .int .i64 0, .int .i64 0, .int .i64 0]) 4 32 Try.underlying40 hi hz0 hz1 hz2 rfl (by decide) _ _ _ rfl HL0.out ⟨g, 0, none⟩ 0 0 [] rfl rfl (by intro j u hj; simp at hj) (by intro u hu; cases hu) (by unfold maxLen; simp) (by simp) (by simp) ?_)
                      intro v8 w2 hown hgrow hnil _
                      have hR8 : Row w2 W1.heap.size v8 (L.drop (k + 1)) := by rw [HD0.out]; exact hown
                      have hB8 : Below W1.heap.size W1 w2 := (Below.alloc (Below.refl _ _) (Nat.le_refl _) _ : Below W1.heap.size W1 _).trans (HL0.out.low (by simp) hgrow)
                      clear hown hgrow
                      go_wp2_with fail
                      go_meet
                      case rel => exact ⟨hR8, fun e => hnil e, hB8⟩
                    · have hc1 : ¬ cap - (k + 1) = 0 := by omega
                      have HF1 := Lib.hid (flatT_read (w := W1.alloc (.cells #[] 91)) (g := g) (off := (k + 1) * 4) (L := L.drop (k + 1)) (fun j hj => by
                        have hj' : k + 1 + j < L.length := by simp at hj; omega
                        have := (HRD1.out (k + 1 + j) hj').below (Below.alloc (Below.refl _ _) (Nat.le_refl _) _ : Below W1.heap.size W1 (W1.alloc (.cells #[] 91))) hg1
                        rw [show (L.drop (k + 1)).getD j default = L.getD (k + 1 + j) default by simp [List.getD_eq_getElem?_getD], show (k + 1) * 4 + j * 4 = (k + 1 + j) * 4 by omega]
                        exact this))
                      have hdl : (flat (L.drop (k + 1))).length = (L.length - (k + 1)) * 4 := by rw [flat_len]; simp
                      have HDL := Lib.hid hdl
                      clear hdl
                      go_wp2_with (at_builtin; refine wpList_append_own_at _ rfl _ _ 40 rfl W1.heap.size 91 i0 (.agg #[.int .i64 0, .int .i64 0, .int .i64 0, .int .i64 0]) 4 32 Try.underlying40 hi hz0 hz1 hz2 rfl (by decide) _ _ _ rfl HL0.out ⟨g, (k + 1) * 4, none⟩ (L.length - (k + 1)) (cap - (k + 1)) (flat (L.drop (k + 1))) rfl HDL.out HF1.out (flat_cell _) (by unfold maxLen; simp; omega) (by simp; omega) (by simp) ?_)
                      intro v8 w2 hown hgrow hnil _
                      have hR8 : Row w2 W1.heap.size v8 (L.drop (k + 1)) := by unfold Row; rw [List.length_drop]; exact hown
                      have hB8 : Below W1.heap.size W1 w2 := (Below.alloc (Below.refl _ _) (Nat.le_refl _) _ : Below W1.heap.size W1 _).trans (HL0.out.low (by simp) hgrow)
                      clear hown hgrow
                      go_wp2_with fail
                      go_meet
                      case rel => exact ⟨hR8, fun e => hnil e, hB8⟩
                case rest =>
                  as_aux_lemma =>
                    obtain ⟨hR8, hn8, hB8⟩ := hcut
                    have hS1 : S < W1.heap.size := HA1.out.mo.sz
                    have A2 := HA1.out.on hB8
                    have hwl : w.heap.size < W1.heap.size := HA1.out.n1
                    obtain ⟨g8, c8, rfl, hg8⟩ : ∃ g c, u8 = .slice (some ⟨g, 0, none⟩) (L.drop (k + 1)).length c ∧ W1.heap.size ≤ g := by
                      rcases hR8.shape with ⟨h1, _⟩ | ⟨g', c', h1, h2, _⟩
                      · exact absurd h1 hn8
                      · exact ⟨g', c', h1, h2⟩
                    have HA3 := Lib.hid ((A2.turn (v' := .slice (some ⟨g, 0, none⟩) k cap) (R' := L.take k) (Row.cut A2.row (by omega)) rfl).store)
                    have HR3 := Lib.hid (show Row (wc.setCell ⟨S, 0, none⟩ (.slice (some ⟨g, 0, none⟩) k cap)) W1.heap.size (.slice (some ⟨g8, 0, none⟩) (L.drop (k + 1)).length c8) (L.drop (k + 1)) from
                      World.ownsRow.kept (row := some S) hR8 ⟨rfl, rfl, rfl, by simp, fun j hj hne => Below.heap_setCell _ _ _ _ (fun e => hne (by rw [e]))⟩ (.inr (by simp [Value.ownBlock]; omega)))
                    clear s0 sf
                    obtain ⟨s0, sf, ssz3⟩ := A2.mo
                    clear hR8 A2 HL0 HRD1 HA1
                    go_upto_region 11 with fail
                    obtain ⟨W3, hW3⟩ : ∃ W, W = wc.setCell ⟨S, 0, none⟩ (.slice (some ⟨g, 0, none⟩) k cap) := ⟨_, rfl⟩
                    rw [← hW3]
                    rw [← hW3] at HA3 HR3
                    have hs3 : W1.heap.size ≤ W3.heap.size := by rw [hW3]; simpa using hB8.size
                    have hBW : B ≤ W3.heap.size := by omega
                    have htk : (L.take k).length ≤ 4000 := by simp; omega
                    have htk2 : (L.drop (k + 1)).length ≤ 4000 := by simp; omega
                    clear s0 sf hW3 hB8 ssz3 ssz2 hn8
                    obtain ⟨sm, hsm⟩ : ∃ s, s = (y.t + x.t) % p := ⟨_, rfl⟩
                    rw [← hsm] at hm0 hm1 ⊢
                    have HSM := Lib.hid hsm
                    clear hsm
                    by_cases hs0 : sm = 0
                    · have hsb : (sm != 0) = false := by simp [hs0]
                      have HFIN := Lib.hid (show addT p x L = L.take k ++ L.drop (k + 1) by
                        unfold addT
                        rw [if_neg HX0.out, if_pos HH.out, ← HPE.out, ← HY.out, ← HSM.out, if_pos hs0])
                      clear hs0
                      obtain ⟨s0, sf, ssz4⟩ := HA3.out.mo
                      have HF8 := Lib.hid (World.ownsRow.cells HR3.out rfl)
                      go_wp2_with (at_builtin; refine wpList_append_own_at _ rfl _ _ 40 rfl B 91 i0 (.agg #[.int .i64 0, .int .i64 0, .int .i64 0, .int .i64 0]) 4 32 Try.underlying40 hi hz0 hz1 hz2 rfl (by decide) _ _ _ rfl HA3.out.row ⟨g8, 0, none⟩ (L.drop (k + 1)).length c8 (flat (L.drop (k + 1))) rfl (flat_len _) HF8.out (flat_cell _) (by unfold maxLen; omega) (by omega) (by omega) ?_)
                      intro v9 w4 hown hgrow hnil hat
                      have A9 := (HA3.out.app (R' := L.take k ++ L.drop (k + 1)) (by unfold Row; rw [List.length_append, flat_app, List.length_take, List.length_drop, Nat.min_eq_left (by omega)]; exact hown) hgrow hat)
                      obtain ⟨g9, n9, c9, rfl⟩ : ∃ g n c, v9 = .slice (some ⟨g, 0, none⟩) n c := by
                        rcases A9.row.shape with ⟨h1, _⟩ | ⟨g', c', h1, _⟩
                        · exact absurd h1 hnil
                        · exact ⟨g', _, c', h1⟩
                      have HA9 := Lib.hid A9.store
                      obtain ⟨s1, sf1, _⟩ := A9.mo
                      clear hown hgrow hat A9 s0 sf hnil
                      go_wp2_with fail
                      refine bodyPost_ret (v := .tuple #[]) (by simp [results, Try.results96, go_sem]) rfl ?_
                      rw [HFIN.out]; exact HA9.out.done
                    · have hsb : (sm != 0) = true := by simp [hs0]
                      have HFIN := Lib.hid (show addT p x L = L.take k ++ [⟨x.a, x.b, x.c, sm⟩] ++ L.drop (k + 1) by
                        unfold addT
                        rw [if_neg HX0.out, if_pos HH.out, ← HPE.out, ← HY.out, ← HSM.out, if_neg hs0]
                        simp)
                      clear hs0
                      obtain ⟨s0, sf, ssz4⟩ := HA3.out.mo
                      obtain ⟨t0, t1, t2, t3⟩ := HA3.out.bx
                      simp only [Nat.zero_add] at t0 t1 t2 t3
                      have hgW3 : g < W3.heap.size := (World.ownsRow.lt HA3.out.row g rfl).2
                      have hn3 := HA3.out.n1
                      have b12 : ∀ o, Below W3.heap.size W3 (W3.alloc o).drew := fun o => Below.drew (Below.alloc (Below.refl _ _) (Nat.le_refl _) _)
                      have HSK := Lib.hid (show ∀ o, ((W3.alloc o).drew.cell? ⟨S, 0, none⟩ = some (.slice (some ⟨g, 0, none⟩) k cap) ∧ (W3.alloc o).drew.cell? ⟨w.heap.size, 0, none⟩ = some (.int .i64 x.a) ∧ (W3.alloc o).drew.cell? ⟨w.heap.size, 1, none⟩ = some (.int .i64 x.b) ∧ (W3.alloc o).drew.cell? ⟨w.heap.size, 2, none⟩ = some (.int .i64 x.c)) from fun o => by
                        obtain ⟨q0, q1, q2, _⟩ := (HA3.out.on (b12 o)).bx
                        exact ⟨(HA3.out.on (b12 o)).mo.c, q0, q1, q2⟩)
                      have HA12 := Lib.hid (HA3.out.on (b12 (Obj.cells #[.int .i64 x.a, .int .i64 x.b, .int .i64 x.c, .int .i64 sm] 91)))
                      have HR12 := Lib.hid (Row.below HR3.out (b12 (Obj.cells #[.int .i64 x.a, .int .i64 x.b, .int .i64 x.c, .int .i64 sm] 91)))
                      clear b12 HR3
                      go_wp2_with fail
                      refine wp_region_seq [(0, true), (1, true), (2, true), (3, true), (4, true), (5, true), (6, true), (7, true), (8, true), (9, false), (10, false), (11, true), (12, true)] (fun w' => w'.cell? ⟨S, 0, none⟩ = some (.slice (some ⟨g, 0, none⟩) k cap) ∧ w'.cell? ⟨w.heap.size, 0, none⟩ = some (.int .i64 x.a) ∧ w'.cell? ⟨w.heap.size, 1, none⟩ = some (.int .i64 x.b) ∧ w'.cell? ⟨w.heap.size, 2, none⟩ = some (.int .i64 x.c)) (by kernel_rfl) (by kernel_rfl) rfl (by intro c a d v w h; cases d <;> exact h) ⟨s0, t0, t1, t2⟩ ?_
                      iterate 9 (refine wpSeq_take (v := ?_) (List.getElem?_toArray.trans rfl) ?_ ?_; rotate_left; (intro w' hSw; (try dsimp only at hSw); go_simp; (try with_reducible rfl)); (try simp only [Act.put, List.setIfInBounds_toArray, List.set_cons_zero, List.set_cons_succ]))
                      refine wpSeq_do (List.getElem?_toArray.trans rfl) (fun K hK => ?_)
                      go_simp
                      refine hK _ _ (HSK.out _) ?_
                      clear hK K
                      refine wpSeq_do (List.getElem?_toArray.trans rfl) (fun K hK => ?_)
                      refine wp_append_lies _ _ _ 40 rfl B 91 i0 (.agg #[.int .i64 0, .int .i64 0, .int .i64 0, .int .i64 0]) 4 32 Try.underlying40 hi hz0 hz1 hz2 rfl (by decide) (.slice (some ⟨g, 0, none⟩) k cap) (L.take k).length (flat (L.take k)) (by simp [Act.eval]) HA12.out.row _ 1 1 [.int .i64 x.a, .int .i64 x.b, .int .i64 x.c, .int .i64 sm] (by simp [Act.eval]; rfl) rfl (by intro j u hj; match j, hj with | 0, hj => (simp at hj; subst hj; simp [Addr.add, go_sem]) | 1, hj => (simp at hj; subst hj; simp [Addr.add, go_sem]) | 2, hj => (simp at hj; subst hj; simp [Addr.add, go_sem]) | 3, hj => (simp at hj; subst hj; simp [Addr.add, go_sem])) (by intro u hu; simp at hu; rcases hu with rfl | rfl | rfl | rfl <;> rfl) (by omega) (by unfold maxLen; omega) (by omega) (by first | omega | (simp; omega)) _ rfl ?_
                      intro gv cv w5 hown hgrow hat _
                      have A13 := (HA12.out.app (v' := .slice (some ⟨gv, 0, none⟩) ((L.take k).length + 1) cv) (R' := L.take k ++ [⟨x.a, x.b, x.c, sm⟩]) (by unfold Row; rw [List.length_append, flat_app, flat_one]; exact hown) hgrow (by
                        rcases hat with e | e
                        · exact .inl e.symm
                        · exact .inr (by rw [e]; rfl)))
                      have R13 := World.ownsRow.kept (row := some g) HR12.out hgrow (.inr (by simp [Value.ownBlock]; omega))
                      obtain ⟨q0, q1, q2, _⟩ := A13.bx
                      refine hK _ _ ⟨A13.mo.c, q0, q1, q2⟩ ?_
                      clear hK K q0 q1 q2
                      iterate 2 (refine wpSeq_take (v := ?_) (List.getElem?_toArray.trans rfl) ?_ ?_; rotate_left; (intro w' hSw; (try dsimp only at hSw); go_simp; (try with_reducible rfl)); (try simp only [Act.put, List.setIfInBounds_toArray, List.set_cons_zero, List.set_cons_succ]))
                      refine wpSeq_nil ?_
                      simp only [Exit.then]
                      have HA14 := Lib.hid A13.store
                      have HR14 := Lib.hid (show Row (w5.setCell ⟨S, 0, none⟩ (.slice (some ⟨gv, 0, none⟩) ((L.take k).length + 1) cv)) W1.heap.size (.slice (some ⟨g8, 0, none⟩) (L.drop (k + 1)).length c8) (L.drop (k + 1)) from
                        World.ownsRow.kept (row := some S) R13 ⟨rfl, rfl, rfl, by simp, fun j hj hne => Below.heap_setCell _ _ _ _ (fun e => hne (by rw [e]))⟩ (.inr (by simp [Value.ownBlock]; omega)))
                      have hB5 : B ≤ (w5.setCell ⟨S, 0, none⟩ (.slice (some ⟨gv, 0, none⟩) ((L.take k).length + 1) cv)).heap.size := by
                        have := HA14.out.n1
                        have := HA14.out.hn
                        omega
                      have htk5 : (L.take k ++ [(⟨x.a, x.b, x.c, sm⟩ : Trm)]).length ≤ 4001 := by simp; omega
                      have htk6 : (L.take k).length + 1 = k + 1 := by simp; omega
                      clear s0 sf t0 t1 t2 t3
                      obtain ⟨s0, sf, _⟩ := A13.mo
                      have e8 : (L.drop (k + 1)).length = L.length - (k + 1) := by simp
                      rw [e8] at HR14
                      obtain ⟨R5, hR5⟩ : ∃ R, R = L.take k ++ [(⟨x.a, x.b, x.c, sm⟩ : Trm)] := ⟨_, rfl⟩
                      rw [← hR5] at htk5 HA14 HFIN
                      rw [htk6] at HA14 HR14 hB5 ⊢
                      clear A13 R13 hown hgrow hat
                      go_upto_region 13 with fail
                      obtain ⟨W5, hW5⟩ : ∃ W, W = w5.setCell ⟨S, 0, none⟩ (.slice (some ⟨gv, 0, none⟩) (k + 1) cv) := ⟨_, rfl⟩
                      rw [← hW5] at HA14 HR14 hB5 ⊢
                      clear s0 sf
                      obtain ⟨s0, sf, _⟩ := HA14.out.mo
                      have HF8 := Lib.hid (World.ownsRow.cells HR14.out rfl)
                      clear hR5 htk6 hW5
                      go_wp2_with (at_builtin; refine wpList_append_own_at _ rfl _ _ 40 rfl B 91 i0 (.agg #[.int .i64 0, .int .i64 0, .int .i64 0, .int .i64 0]) 4 32 Try.underlying40 hi hz0 hz1 hz2 rfl (by decide) _ _ _ rfl HA14.out.row ⟨g8, 0, none⟩ (L.length - (k + 1)) c8 (flat (L.drop (k + 1))) rfl (by rw [flat_len, e8]) HF8.out (flat_cell _) (by unfold maxLen; omega) (by omega) (by omega) ?_)
                      intro v9 w9 hown hgrow hnil hat
                      have A9 := (HA14.out.app (R' := R5 ++ L.drop (k + 1)) (by unfold Row; rw [List.length_append, flat_app, e8]; exact hown) hgrow hat)
                      obtain ⟨g9, n9, c9, rfl⟩ : ∃ g n c, v9 = .slice (some ⟨g, 0, none⟩) n c := by
                        rcases A9.row.shape with ⟨h1, _⟩ | ⟨g', c', h1, _⟩
                        · exact absurd h1 hnil
                        · exact ⟨g', _, c', h1⟩
                      have HA9 := Lib.hid A9.store
                      obtain ⟨s1, sf1, _⟩ := A9.mo
                      clear hown hgrow hat A9 s0 sf hnil
                      go_wp2_with fail
                      refine bodyPost_ret (v := .tuple #[]) (by simp [results, Try.results96, go_sem]) rfl ?_
                      rw [HFIN.out]; exact HA9.out.done
              · have hkL : k ≤ L.length := hpl
                have hkp : (k : Int) ≤ (L.length : Int) := by omega
                have hk0 : (0 : Int) ≤ (k : Int) := by omega
                have hkc : (k : Int) ≤ (cap : Int) := by omega
                have hLc : (L.length : Int) ≤ (cap : Int) := by omega
                have HFIN := Lib.hid (show addT p x L = L.take k ++ [x] ++ L.drop k by
                  unfold addT
                  rw [if_neg HX0.out, if_neg (by rw [hh]; simp), ← HPE.out]
                  simp)
                rw [hh]
                clear hh
                obtain ⟨W1, hW1⟩ : ∃ W, W = wc := ⟨_, rfl⟩
                rw [← hW1] at HA0 HRD s0 sf ssz2 t0 t1 t2 t3 ⊢
                clear hW1
                have HL0 := Lib.hid (Row.lit0 W1 W1.heap.size (Nat.le_refl _))
                have hg1 : g < W1.heap.size := (World.ownsRow.lt HA0.out.row g rfl).2
                go_upto_region 4 with fail
                go_cut [9] from 32 to 39 (fun s w' => Row w' W1.heap.size s (L.drop k) ∧ s ≠ .slice none 0 0 ∧ Below W1.heap.size W1 w')
                case first =>
                  as_aux_lemma =>
                    by_cases hce : cap = k
                    · have hLk : L.length = k := by omega
                      have hd0 : L.drop k = [] := by simp; omega
                      have HD0 := Lib.hid hd0
                      have hc0 : cap - k = 0 := by omega
                      have hl0 : L.length - k = 0 := by omega
                      have HLK := Lib.hid hLk
                      have HCE := Lib.hid hce
                      clear hLk hce hd0
                      go_wp2_with (at_builtin; refine wpList_append_own_at _ rfl _ _ 40 rfl W1.heap.size 91 i0 (.agg #[.int .i64 0, .int .i64 0, .int .i64 0, .int .i64 0]) 4 32 Try.underlying40 hi hz0 hz1 hz2 rfl (by decide) _ _ _ rfl HL0.out ⟨g, 0, none⟩ 0 0 [] rfl rfl (by intro j u hj; simp at hj) (by intro u hu; cases hu) (by unfold maxLen; simp) (by simp) (by simp) ?_)
                      intro v8 w2 hown hgrow hnil _
                      have hR8 : Row w2 W1.heap.size v8 (L.drop k) := by rw [HD0.out]; exact hown
                      have hB8 : Below W1.heap.size W1 w2 := (Below.alloc (Below.refl _ _) (Nat.le_refl _) _ : Below W1.heap.size W1 _).trans (HL0.out.low (by simp) hgrow)
                      clear hown hgrow
                      go_wp2_with fail
                      go_meet
                      case rel => exact ⟨hR8, fun e => hnil e, hB8⟩
                    · have hc1 : ¬ cap - k = 0 := by omega
                      have HF1 := Lib.hid (flatT_read (w := W1.alloc (.cells #[] 91)) (g := g) (off := k * 4) (L := L.drop k) (fun j hj => by
                        have hj' : k + j < L.length := by simp at hj; omega
                        have := (HRD.out (k + j) hj').below (Below.alloc (Below.refl _ _) (Nat.le_refl _) _ : Below W1.heap.size W1 (W1.alloc (.cells #[] 91))) hg1
                        rw [show (L.drop k).getD j default = L.getD (k + j) default by simp [List.getD_eq_getElem?_getD], show k * 4 + j * 4 = (k + j) * 4 by omega]
                        exact this))
                      have hdl : (flat (L.drop k)).length = (L.length - k) * 4 := by rw [flat_len]; simp
                      have HDL := Lib.hid hdl
                      clear hdl
                      go_wp2_with (at_builtin; refine wpList_append_own_at _ rfl _ _ 40 rfl W1.heap.size 91 i0 (.agg #[.int .i64 0, .int .i64 0, .int .i64 0, .int .i64 0]) 4 32 Try.underlying40 hi hz0 hz1 hz2 rfl (by decide) _ _ _ rfl HL0.out ⟨g, k * 4, none⟩ (L.length - k) (cap - k) (flat (L.drop k)) rfl HDL.out HF1.out (flat_cell _) (by unfold maxLen; simp; omega) (by simp; omega) (by simp) ?_)
                      intro v8 w2 hown hgrow hnil _
                      have hR8 : Row w2 W1.heap.size v8 (L.drop k) := by unfold Row; rw [List.length_drop]; exact hown
                      have hB8 : Below W1.heap.size W1 w2 := (Below.alloc (Below.refl _ _) (Nat.le_refl _) _ : Below W1.heap.size W1 _).trans (HL0.out.low (by simp) hgrow)
                      clear hown hgrow
                      go_wp2_with fail
                      go_meet
                      case rel => exact ⟨hR8, fun e => hnil e, hB8⟩
                case rest =>
                  as_aux_lemma =>
                    obtain ⟨hR8, hn8, hB8⟩ := hcut
                    have hS1 : S < W1.heap.size := HA0.out.mo.sz
                    have A2 := HA0.out.on hB8
                    have hwl : w.heap.size < W1.heap.size := HA0.out.n1
                    have e8 : (L.drop k).length = L.length - k := by simp
                    obtain ⟨g8, c8, rfl, hg8⟩ : ∃ g c, u9 = .slice (some ⟨g, 0, none⟩) (L.length - k) c ∧ W1.heap.size ≤ g := by
                      rcases hR8.shape with ⟨h1, _⟩ | ⟨g', c', h1, h2, _⟩
                      · exact absurd h1 hn8
                      · rw [e8] at h1
                        exact ⟨g', c', h1, h2⟩
                    have A3 := A2.turn (v' := .slice (some ⟨g, 0, none⟩) k cap) (R' := L.take k) (Row.cut A2.row hkL) rfl
                    clear s0 sf t0 t1 t2 t3
                    obtain ⟨s0, sf, ssz3⟩ := A2.mo
                    obtain ⟨t0, t1, t2, t3⟩ := A2.bx
                    simp only [Nat.zero_add] at t0 t1 t2 t3
                    have hBW : B ≤ wc.heap.size := by have := A2.hB; have := A2.hn; have := A2.n1; omega
                    have htk : (L.take k).length ≤ 4000 := by simp; omega
                    have htk6 : (L.take k).length + 1 = k + 1 := by simp; omega
                    have hgW3 : g < wc.heap.size := Nat.lt_of_lt_of_le hg1 hB8.size
                    have hn3 := A2.n1
                    have b12 : ∀ o, Below wc.heap.size wc (wc.alloc o).drew := fun o => Below.drew (Below.alloc (Below.refl _ _) (Nat.le_refl _) _)
                    have HSK := Lib.hid (show ∀ o, ((wc.alloc o).drew.cell? ⟨S, 0, none⟩ = some (.slice (some ⟨g, 0, none⟩) L.length cap) ∧ (wc.alloc o).drew.cell? ⟨w.heap.size, 0, none⟩ = some (.int .i64 x.a) ∧ (wc.alloc o).drew.cell? ⟨w.heap.size, 1, none⟩ = some (.int .i64 x.b) ∧ (wc.alloc o).drew.cell? ⟨w.heap.size, 2, none⟩ = some (.int .i64 x.c) ∧ (wc.alloc o).drew.cell? ⟨w.heap.size, 3, none⟩ = some (.int .i64 x.t)) from fun o => by
                      obtain ⟨q0, q1, q2, q3⟩ := (A2.on (b12 o)).bx
                      exact ⟨(A2.on (b12 o)).mo.c, q0, q1, q2, q3⟩)
                    have HA12 := Lib.hid (A3.on (b12 (Obj.cells #[.int .i64 x.a, .int .i64 x.b, .int .i64 x.c, .int .i64 x.t] 91)))
                    have HR12 := Lib.hid (Row.below hR8 (b12 (Obj.cells #[.int .i64 x.a, .int .i64 x.b, .int .i64 x.c, .int .i64 x.t] 91)))
                    clear b12 hR8 A2 A3 HL0 HRD HA0 ssz2 ssz3 hn8 hB8
                    go_wp2_with fail
                    refine wp_region_seq [(0, true), (1, true), (2, true), (3, true), (4, true), (5, true), (6, true), (7, true), (10, true), (8, false), (9, false), (11, false), (12, true), (13, true)] (fun w' => w'.cell? ⟨S, 0, none⟩ = some (.slice (some ⟨g, 0, none⟩) L.length cap) ∧ w'.cell? ⟨w.heap.size, 0, none⟩ = some (.int .i64 x.a) ∧ w'.cell? ⟨w.heap.size, 1, none⟩ = some (.int .i64 x.b) ∧ w'.cell? ⟨w.heap.size, 2, none⟩ = some (.int .i64 x.c) ∧ w'.cell? ⟨w.heap.size, 3, none⟩ = some (.int .i64 x.t)) (by kernel_rfl) (by kernel_rfl) rfl (by intro c a d v w h; cases d <;> exact h) ⟨s0, t0, t1, t2, t3⟩ ?_
                    iterate 9 (refine wpSeq_take (v := ?_) (List.getElem?_toArray.trans rfl) ?_ ?_; rotate_left; (intro w' hSw; (try dsimp only at hSw); go_simp; (try with_reducible rfl)); (try simp only [Act.put, List.setIfInBounds_toArray, List.set_cons_zero, List.set_cons_succ]))
                    refine wpSeq_do (List.getElem?_toArray.trans rfl) (fun K hK => ?_)
                    go_simp
                    refine hK _ _ (HSK.out _) ?_
                    clear hK K
                    refine wpSeq_do (List.getElem?_toArray.trans rfl) (fun K hK => ?_)
                    refine wp_append_lies _ _ _ 40 rfl B 91 i0 (.agg #[.int .i64 0, .int .i64 0, .int .i64 0, .int .i64 0]) 4 32 Try.underlying40 hi hz0 hz1 hz2 rfl (by decide) (.slice (some ⟨g, 0, none⟩) k cap) (L.take k).length (flat (L.take k)) (by simp [Act.eval]) HA12.out.row _ 1 1 [.int .i64 x.a, .int .i64 x.b, .int .i64 x.c, .int .i64 x.t] (by simp [Act.eval]; rfl) rfl (by intro j u hj; match j, hj with | 0, hj => (simp at hj; subst hj; simp [Addr.add, go_sem]) | 1, hj => (simp at hj; subst hj; simp [Addr.add, go_sem]) | 2, hj => (simp at hj; subst hj; simp [Addr.add, go_sem]) | 3, hj => (simp at hj; subst hj; simp [Addr.add, go_sem])) (by intro u hu; simp at hu; rcases hu with rfl | rfl | rfl | rfl <;> rfl) (by omega) (by unfold maxLen; omega) (by omega) (by first | omega | (simp; omega)) _ rfl ?_
                    intro gv cv w5 hown hgrow hat _
                    have A13 := (HA12.out.app (v' := .slice (some ⟨gv, 0, none⟩) ((L.take k).length + 1) cv) (R' := L.take k ++ [x]) (by unfold Row; rw [List.length_append, flat_app, flat_one]; exact hown) hgrow (by
                      rcases hat with e | e
                      · exact .inl e.symm
                      · exact .inr (by rw [e]; rfl)))
                    have R13 : Row w5 W1.heap.size (.slice (some ⟨g8, 0, none⟩) (L.length - k) c8) (L.drop k) := World.ownsRow.kept (row := some g) HR12.out hgrow (.inr (by simp [Value.ownBlock]; omega))
                    obtain ⟨q0, q1, q2, q3⟩ := A13.bx
                    refine hK _ _ ⟨A13.mo.c, q0, q1, q2, q3⟩ ?_
                    clear hK K
                    simp only [Act.put, List.setIfInBounds_toArray, List.set_cons_zero, List.set_cons_succ]
                    rw [htk6] at A13 ⊢
                    have hB5 : B ≤ w5.heap.size := by have := A13.hB; have := A13.hn; have := A13.n1; omega
                    have HF8 := Lib.hid (World.ownsRow.cells R13 rfl)
                    have hl5 : (L.take k ++ [x]).length ≤ 4001 := by simp; omega
                    refine wpSeq_do (List.getElem?_toArray.trans rfl) (fun K hK => ?_)
                    refine wp_app_at _ _ 40 rfl B 91 i0 (.agg #[.int .i64 0, .int .i64 0, .int .i64 0, .int .i64 0]) 4 32 Try.underlying40 hi hz0 hz1 hz2 rfl (by decide) (.slice (some ⟨gv, 0, none⟩) (k + 1) cv) (L.take k ++ [x]).length (flat (L.take k ++ [x])) (by simp [Act.eval]) A13.row ⟨g8, 0, none⟩ (L.length - k) c8 (flat (L.drop k)) (by simp [Act.eval]) (by rw [flat_len, e8]) HF8.out (flat_cell _) (by unfold maxLen; omega) (by omega) (by omega) ?_
                    intro v9 w9 hown9 hgrow9 hnil9 hat9
                    have A9 := (A13.app (R' := L.take k ++ [x] ++ L.drop k) (by unfold Row; rw [List.length_append, flat_app, e8]; exact hown9) hgrow9 hat9)
                    obtain ⟨g9, n9, c9, rfl⟩ : ∃ g n c, v9 = .slice (some ⟨g, 0, none⟩) n c := by
                      rcases A9.row.shape with ⟨h1, _⟩ | ⟨g', c', h1, _⟩
                      · exact absurd (hnil9.1 h1).1 (by simp)
                      · exact ⟨g', _, c', h1⟩
                    obtain ⟨q0, q1, q2, q3⟩ := A9.bx
                    refine hK _ _ ⟨A9.mo.c, q0, q1, q2, q3⟩ ?_
                    clear hK K
                    iterate 2 (refine wpSeq_take (v := ?_) (List.getElem?_toArray.trans rfl) ?_ ?_; rotate_left; (intro w' hSw; (try dsimp only at hSw); go_simp; (try with_reducible rfl)); (try simp only [Act.put, List.setIfInBounds_toArray, List.set_cons_zero, List.set_cons_succ]))
                    refine wpSeq_nil ?_
                    simp only [Exit.then]
                    have HA9 := Lib.hid A9.store
                    clear s0 sf t0 t1 t2 t3
                    obtain ⟨s1, sf1, _⟩ := A9.mo
                    clear hown hgrow hat A9 A13 R13 hnil9 hown9 hgrow9 hat9
                    go_wp2_with fail
                    refine bodyPost_ret (v := .tuple #[]) (by simp [results, Try.results96, go_sem]) rfl ?_
                    rw [HFIN.out]; exact HA9.out.done
end Go.Proofs.Ytfmpcniehgipfaa
