/-
  Contracts of the model's draws of polynomials: each hands back some terms in memory of its own and writes nothing that was there but the reader's count. Conditions: the bytes can be read.
  Contracts of the model's draws of polynomials, on: a polynomial that is sometimes spoilt, a prime and one or two of them. Conditions: the bytes can be read.
  Contracts of the model's draws of polynomials, on: two of them, with an unknown, with a point: the draws of the laws' arguments. Conditions: the bytes can be read.
-/
import Derived.Test.YtoeghbcolpailaaGreatBa22
import Derived.Test.YtoeghbcolpailaaGreatBa34
namespace Go.Proofs.YtoeghbcolpailaaGreat
open Go.RowKit
theorem rd_far {w w' : World} {R B : Nat} {a : Option Addr} {len cap p : Nat} (h : Rd w R a len cap p) (hs : w.heap.size ≤ w'.heap.size) (hb : ∀ k, k < B → w'.heap[k]? = w.heap[k]?) (hR : R < B) (ha : len = 0 ∨ ∀ g off, a = some ⟨g, off, none⟩ → g < B) : Rd w' R a len cap p := by
  have e := hb R hR
  refine ⟨by rw [World.cell?_of_block (a := ⟨R, 0, none⟩) e]; exact h.b0, by rw [World.cell?_of_block (a := ⟨R, 1, none⟩) e]; exact h.p1, by rw [World.frozen?_of_block (a := ⟨R, 1, none⟩) e]; exact h.f1, Nat.lt_of_lt_of_le h.sz hs, h.len_le, ?_⟩
  rcases ha with h0 | ha
  · exact .inl h0
  · rcases h.bytes with h0 | ⟨g, off, rfl, hR, hg, hc⟩
    · exact .inl h0
    · refine .inr ⟨g, off, rfl, hR, Nat.lt_of_lt_of_le hg hs, fun i hi => ?_⟩
      obtain ⟨z, z0, z1, hz⟩ := hc i hi
      exact ⟨z, z0, z1, by rw [World.cell?_of_block (a := ⟨g, off + i, none⟩) (hb g (ha g off rfl))]; exact hz⟩
theorem rd_la {w : World} {R : Nat} {a : Option Addr} {len cap p : Nat} (h : Rd w R a len cap p) : len = 0 ∨ ∀ g off, a = some ⟨g, off, none⟩ → g < w.heap.size := by
  rcases h.bytes with h0 | ⟨g, off, rfl, hR, hg, hc⟩
  · exact .inl h0
  · refine .inr fun g' off' e => ?_
    injection e with e
    injection e with e1 e2
    omega
theorem grown_below {w w' : World} {R : Nat} (h : Below w.heap.size w w') : w.grownBy w' (some R) := ⟨h.os, h.tape, h.output, h.size, fun k hk _ => h.block k hk⟩
theorem rd_on {w w' : World} {R : Nat} {a : Option Addr} {len cap p : Nat} (h : Rd w R a len cap p) (hb : Below w.heap.size w w') : Rd w' R a len cap p :=
  rd_far h hb.size (fun k hk => hb.block k hk) h.sz (rd_la h)
/-- drawing: the reader, the sum in block T and its terms -/
structure PDr (w0 : World) (R : Nat) (a : Option Addr) (len cap q T : Nat) (v : Value) (M : List Trm) (wr : World) : Prop where
  rd : Rd wr R a len cap q
  md : ModW wr T v
  row : Row wr w0.heap.size v M
  RB : R < w0.heap.size
  TB : w0.heap.size ≤ T
  la : len = 0 ∨ ∀ g off, a = some ⟨g, off, none⟩ → g < w0.heap.size
  gr : w0.grownBy wr (some R)
  nt : v.ownBlock ≠ some T
section
variable {w0 wr : World} {R : Nat} {a : Option Addr} {len cap q T : Nat} {v : Value} {M : List Trm}
theorem PDr.size (h : PDr w0 R a len cap q T v M wr) : w0.heap.size ≤ wr.heap.size := h.gr.size
theorem PDr.nR (h : PDr w0 R a len cap q T v M wr) : v.ownBlock ≠ some R := fun e => by
  have h1 := h.RB
  have := (World.ownsRow.lt h.row R e).1
  omega
theorem PDr.on (h : PDr w0 R a len cap q T v M wr) {w' : World} (hb : Below wr.heap.size wr w') : PDr w0 R a len cap q T v M w' :=
  ⟨rd_far h.rd hb.size (fun k hk => hb.block k (Nat.lt_of_lt_of_le hk h.size)) h.RB h.la, h.md.below hb, h.row.below hb, h.RB, h.TB, h.la, grown_trans h.gr (grown_below hb), h.nt⟩
theorem PDr.pk (h : PDr w0 R a len cap q T v M wr) {w' : World} {q' : Nat} (hr : Rd w' R a len cap q') (hg : wr.grownBy w' (some R)) : PDr w0 R a len cap q' T v M w' := by
  have hne : T ≠ R := by have := h.RB; have := h.TB; omega
  have hb := hg.block T h.md.sz (fun e => hne (by injection e))
  exact ⟨hr, ⟨by rw [World.cell?_of_block (a := ⟨T, 0, none⟩) hb]; exact h.md.c, by rw [World.frozen?_of_block (a := ⟨T, 0, none⟩) hb]; exact h.md.f, Nat.lt_of_lt_of_le h.md.sz hg.size⟩,
    World.ownsRow.kept (row := some R) h.row hg (.inr h.nR), h.RB, h.TB, h.la, grown_trans h.gr hg, h.nt⟩
theorem PDr.sn (h : PDr w0 R a len cap q T v M wr) (X o : Nat) (u : Value) (hv : v.ownBlock ≠ some X) (hX : w0.heap.size ≤ X) (hT : T ≠ X) : PDr w0 R a len cap q T v M (wr.setCell ⟨X, o, none⟩ u) := by
  have hk : ∀ k, k < w0.heap.size → (wr.setCell ⟨X, o, none⟩ u).heap[k]? = wr.heap[k]? := fun k hk => Below.heap_setCell _ _ _ _ (show k ≠ X by omega)
  have hbT : (wr.setCell ⟨X, o, none⟩ u).heap[T]? = wr.heap[T]? := Below.heap_setCell _ _ _ _ hT
  refine ⟨rd_far h.rd (by simp) hk h.RB h.la, ⟨by rw [World.cell?_of_block (a := ⟨T, 0, none⟩) hbT]; exact h.md.c, by rw [World.frozen?_of_block (a := ⟨T, 0, none⟩) hbT]; exact h.md.f, by simpa using h.md.sz⟩,
    World.ownsRow.kept (row := some X) h.row ⟨rfl, rfl, rfl, by simp, fun k hk hne => Below.heap_setCell _ _ _ _ (fun e => hne (by rw [e]))⟩ (.inr hv), h.RB, h.TB, h.la, ⟨h.gr.os, h.gr.tape, h.gr.output, by simpa using h.gr.size, fun k hk' hne => ?_⟩, h.nt⟩
  rw [hk k hk']; exact h.gr.block k hk' hne
theorem PDr.add (h : PDr w0 R a len cap q T v M wr) {w' : World} {e : Ending} {L' : List Trm} (hP : AddTo w0.heap.size T v L' wr e w') : e = .returned (.tuple #[]) ∧ ∃ v', PDr w0 R a len cap q T v' L' w' := by
  have hlow := hP.low h.row h.TB h.size
  obtain ⟨he, v', hS, hR, hv, _, _⟩ := hP
  exact ⟨he, v', rd_far h.rd hlow.size (fun k hk => hlow.block k hk) h.RB h.la, hS, hR, h.RB, h.TB, h.la, ⟨hlow.os.trans h.gr.os, hlow.tape.trans h.gr.tape, hlow.output.trans h.gr.output, Nat.le_trans h.gr.size hlow.size, fun k hk hne => (hlow.block k hk).trans (h.gr.block k hk hne)⟩, hv⟩
theorem PDr.new (h : PDr w0 R a len cap q T v M wr) {X : Nat} (hX : wr.heap.size ≤ X) : v.ownBlock ≠ some X := fun e => by
  have := (World.ownsRow.lt h.row X e).2
  omega
end
/-- a block that holds a term and may be written -/
structure TmA (w : World) (X : Nat) (x : Trm) : Prop where
  t : TAt w X 0 x
  f : ∀ i, w.frozen? ⟨X, i, none⟩ = false
  sz : X < w.heap.size
theorem TmA.pk {w w' : World} {X R : Nat} {x : Trm} (h : TmA w X x) (hg : w.grownBy w' (some R)) (hne : X ≠ R) : TmA w' X x := by
  have hb := hg.block X h.sz (fun e => hne (by injection e))
  obtain ⟨t0, t1, t2, t3⟩ := h.t
  exact ⟨⟨by rw [World.cell?_of_block (a := ⟨X, 0, none⟩) hb]; exact t0, by rw [World.cell?_of_block (a := ⟨X, 0 + 1, none⟩) hb]; exact t1, by rw [World.cell?_of_block (a := ⟨X, 0 + 2, none⟩) hb]; exact t2, by rw [World.cell?_of_block (a := ⟨X, 0 + 3, none⟩) hb]; exact t3⟩,
    fun i => by rw [World.frozen?_of_block (a := ⟨X, i, none⟩) hb]; exact h.f i, Nat.lt_of_lt_of_le h.sz hg.size⟩
theorem TmA.s0 {w : World} {X : Nat} {x : Trm} (h : TmA w X x) (v : Int) : TmA (w.setCell ⟨X, 0, none⟩ (.int .i64 v)) X ⟨v, x.b, x.c, x.t⟩ := by
  obtain ⟨t0, t1, t2, t3⟩ := h.t
  exact ⟨⟨World.cell?_setCell_same _ _ _ t0, by rw [World.cell?_setCell_other _ _ _ _ (by simp)]; exact t1, by rw [World.cell?_setCell_other _ _ _ _ (by simp)]; exact t2, by rw [World.cell?_setCell_other _ _ _ _ (by simp)]; exact t3⟩,
    fun i => by rw [World.frozen?_setCell]; exact h.f i, by simpa using h.sz⟩
theorem TmA.s1 {w : World} {X : Nat} {x : Trm} (h : TmA w X x) (v : Int) : TmA (w.setCell ⟨X, 1, none⟩ (.int .i64 v)) X ⟨x.a, v, x.c, x.t⟩ := by
  obtain ⟨t0, t1, t2, t3⟩ := h.t
  exact ⟨⟨by rw [World.cell?_setCell_other _ _ _ _ (by simp)]; exact t0, World.cell?_setCell_same _ _ _ t1, by rw [World.cell?_setCell_other _ _ _ _ (by simp)]; exact t2, by rw [World.cell?_setCell_other _ _ _ _ (by simp)]; exact t3⟩,
    fun i => by rw [World.frozen?_setCell]; exact h.f i, by simpa using h.sz⟩
theorem TmA.s2 {w : World} {X : Nat} {x : Trm} (h : TmA w X x) (v : Int) : TmA (w.setCell ⟨X, 2, none⟩ (.int .i64 v)) X ⟨x.a, x.b, v, x.t⟩ := by
  obtain ⟨t0, t1, t2, t3⟩ := h.t
  exact ⟨⟨by rw [World.cell?_setCell_other _ _ _ _ (by simp)]; exact t0, by rw [World.cell?_setCell_other _ _ _ _ (by simp)]; exact t1, World.cell?_setCell_same _ _ _ t2, by rw [World.cell?_setCell_other _ _ _ _ (by simp)]; exact t3⟩,
    fun i => by rw [World.frozen?_setCell]; exact h.f i, by simpa using h.sz⟩
theorem TmA.new (w : World) (x : Trm) : TmA (w.alloc (Obj.cells #[.int .i64 x.a, .int .i64 x.b, .int .i64 x.c, .int .i64 x.t] 55)) w.heap.size x :=
  ⟨by refine ⟨?_, ?_, ?_, ?_⟩ <;> simp [go_sem], fun i => World.frozen?_alloc_at _ _ _ i rfl, by simp⟩
/-- a draw of terms hands back some of them -/
def DrawT (R : Nat) (a : Option Addr) (len cap q c n : Nat) (w : World) (e : Ending) (w' : World) : Prop :=
  ∃ v M q', e = .returned v ∧ M.length ≤ n ∧ q' ≤ q + c ∧ Rd w' R a len cap q' ∧ Row w' w.heap.size v M ∧ w.grownBy w' (some R)
end Go.Proofs.YtoeghbcolpailaaGreat
namespace Go.Proofs.YtoeghbcolpailaaGreat
open Go.RowKit
/-- drawing: the reader and a row of terms -/
structure QSt (w0 : World) (R : Nat) (a : Option Addr) (len cap q : Nat) (v : Value) (M : List Trm) (wr : World) : Prop where
  rd : Rd wr R a len cap q
  row : Row wr w0.heap.size v M
  RB : R < w0.heap.size
  la : len = 0 ∨ ∀ g off, a = some ⟨g, off, none⟩ → g < w0.heap.size
  gr : w0.grownBy wr (some R)
section
variable {w0 wr : World} {R : Nat} {a : Option Addr} {len cap q : Nat} {v : Value} {M : List Trm}
theorem QSt.size (h : QSt w0 R a len cap q v M wr) : w0.heap.size ≤ wr.heap.size := h.gr.size
theorem QSt.nR (h : QSt w0 R a len cap q v M wr) : v.ownBlock ≠ some R := fun e => by
  have h1 := h.RB
  have := (World.ownsRow.lt h.row R e).1
  omega
theorem QSt.on (h : QSt w0 R a len cap q v M wr) {w' : World} (hb : Below wr.heap.size wr w') : QSt w0 R a len cap q v M w' :=
  ⟨rd_far h.rd hb.size (fun k hk => hb.block k (Nat.lt_of_lt_of_le hk h.size)) h.RB h.la, h.row.below hb, h.RB, h.la, grown_trans h.gr (grown_below hb)⟩
theorem QSt.pk (h : QSt w0 R a len cap q v M wr) {w' : World} {q' : Nat} (hr : Rd w' R a len cap q') (hg : wr.grownBy w' (some R)) : QSt w0 R a len cap q' v M w' :=
  ⟨hr, World.ownsRow.kept (row := some R) h.row hg (.inr h.nR), h.RB, h.la, grown_trans h.gr hg⟩
theorem QSt.low (h : QSt w0 R a len cap q v M wr) {w' : World} {v' : Value} {M' : List Trm} (hb : Below w0.heap.size wr w') (hr : Row w' w0.heap.size v' M') : QSt w0 R a len cap q v' M' w' :=
  ⟨rd_far h.rd hb.size (fun k hk => hb.block k hk) h.RB h.la, hr, h.RB, h.la, ⟨hb.os.trans h.gr.os, hb.tape.trans h.gr.tape, hb.output.trans h.gr.output, Nat.le_trans h.gr.size hb.size, fun k hk hne => (hb.block k hk).trans (h.gr.block k hk hne)⟩⟩
/-- one term appended -/
theorem QSt.app1 (h : QSt w0 R a len cap q v M wr) (x : Trm) (hM : M.length ≤ 4000) (ty : TypeId) :
    ∃ v' w', (Builtin.append_ #[29, 29] ty #[v, .slice (some ⟨wr.heap.size, 0, none⟩) 1 1]).run Tryz.prog (wr.alloc (Obj.cells #[.int .i64 x.a, .int .i64 x.b, .int .i64 x.c, .int .i64 x.t] 55)) = .ok v' w' ∧ QSt w0 R a len cap q v' (M ++ [x]) w' := by
  obtain ⟨i0, hi, hz0, hz1, hz2⟩ := info_parts infoT
  have h1 := h.on (w' := wr.alloc (Obj.cells #[.int .i64 x.a, .int .i64 x.b, .int .i64 x.c, .int .i64 x.t] 55)) (Below.alloc (Below.refl _ _) (Nat.le_refl _) _)
  obtain ⟨t0, t1, t2, t3⟩ := (TmA.new wr x).t
  obtain ⟨v', w', hr, hown, hgrow, _, _⟩ := run_append_own_at (P := Tryz.prog) (wr.alloc (Obj.cells #[.int .i64 x.a, .int .i64 x.b, .int .i64 x.c, .int .i64 x.t] 55)) w0.heap.size 29 ty 55 i0 (.agg #[.int .i64 0, .int .i64 0, .int .i64 0, .int .i64 0]) 4 32 Tryz.underlying29 hi hz0 hz1 hz2 rfl (by decide) v M.length (flat M) h1.row ⟨wr.heap.size, 0, none⟩ 1 1 x.cs rfl
    (fun j u hu => by
      match j, hu with
      | 0, hu => simp [Trm.cs] at hu; subst hu; exact t0
      | 1, hu => simp [Trm.cs] at hu; subst hu; exact t1
      | 2, hu => simp [Trm.cs] at hu; subst hu; exact t2
      | 3, hu => simp [Trm.cs] at hu; subst hu; exact t3
      | j + 4, hu => simp [Trm.cs] at hu)
    (fun u hu => flat_cell [x] u (by simpa [flat] using hu)) (by unfold maxLen; omega) (by omega) h1.size
  refine ⟨v', w', hr, h1.low (h1.row.low h1.size hgrow) ?_⟩
  unfold Row
  rw [flat_app, flat_one]
  simpa using hown
/-- a row appended to itself -/
theorem QSt.app2 (h : QSt w0 R a len cap q v M wr) (hM : M.length ≤ 4000) (ty : TypeId) :
    ∃ v' w', (Builtin.append_ #[29, 29] ty #[v, v]).run Tryz.prog wr = .ok v' w' ∧ QSt w0 R a len cap q v' (M ++ M) w' := by
  obtain ⟨i0, hi, hz0, hz1, hz2⟩ := info_parts infoT
  rcases h.row.shape with ⟨rfl, rfl⟩ | ⟨g, c, rfl, hB, hg, hn, hm⟩
  · exact ⟨.slice none 0 0, wr, by simp [Builtin.append_, run_underlying Tryz.underlying29, sizeOf, typeInfo, hi, Builtin.lenOf, Builtin.firstCells], h⟩
  · obtain ⟨v', w', hr, hown, hgrow, _, _⟩ := run_append_own_at (P := Tryz.prog) wr w0.heap.size 29 ty 55 i0 (.agg #[.int .i64 0, .int .i64 0, .int .i64 0, .int .i64 0]) 4 32 Tryz.underlying29 hi hz0 hz1 hz2 rfl (by decide) _ M.length (flat M) h.row ⟨g, 0, none⟩ M.length c (flat M) (flat_len M)
      (World.ownsRow.cells h.row rfl) (flat_cell M) (by unfold maxLen; omega) (by omega) h.size
    refine ⟨v', w', hr, h.low (h.row.low h.size hgrow) ?_⟩
    unfold Row
    rw [flat_app, List.length_append]
    exact hown
end
theorem field_pr (p : Int) (w : World) : Calls Tryz.prog 32 #[.int .i64 p] w fun e w' => ∃ q : Int, e = .returned (.int .i64 q) ∧ isP q = true ∧ w = w' := by
  cases hp : isP p
  · have HP := Lib.hid hp
    clear hp
    go_enter Tryz.func32, Tryz.ntmps32
    go_wp2_with fail
    refine (sPV_no p _ HP.out).mono ?_
    rintro e w1 ⟨rfl, rfl⟩
    go_wp2
    go_ret
    exact ⟨5, rfl, rfl, rfl⟩
  · have HP := Lib.hid hp
    clear hp
    go_enter Tryz.func32, Tryz.ntmps32
    go_wp2_with fail
    refine (sPV_yes p _ HP.out).mono ?_
    rintro e w1 ⟨rfl, rfl⟩
    go_wp2
    go_ret
    exact ⟨p, rfl, HP.out, rfl⟩
/-- a prime, or a number that is none, and some terms -/
def OneT (R : Nat) (a : Option Addr) (len cap q : Nat) (w : World) (e : Ending) (w' : World) : Prop :=
  ∃ (p : Int) (v : Value) (M : List Trm) (q' : Nat), e = .returned (.tuple #[.int .i64 p, v]) ∧ (-9223372036854775808 ≤ p ∧ p ≤ 9223372036854775807) ∧ M.length ≤ 121 ∧ q' ≤ q + 200 ∧ Rd w' R a len cap q' ∧ Row w' w.heap.size v M ∧ w.grownBy w' (some R)
end Go.Proofs.YtoeghbcolpailaaGreat
namespace Go.Proofs.YtoeghbcolpailaaGreat
open Go.RowKit
theorem grown_lowT {w w1 w2 : World} {R : Nat} (h : w.grownBy w1 (some R)) (hb : Below w.heap.size w1 w2) : w.grownBy w2 (some R) :=
  ⟨hb.os.trans h.os, hb.tape.trans h.tape, hb.output.trans h.output, Nat.le_trans h.size hb.size, fun k hk hne => (hb.block k hk).trans (h.block k hk hne)⟩
/-- three cells that may be written -/
def ThreeT (w : World) (g : Nat) : Prop := g < w.heap.size ∧ (∃ u, w.cell? ⟨g, 0, none⟩ = some u) ∧ (∃ u, w.cell? ⟨g, 1, none⟩ = some u) ∧ (∃ u, w.cell? ⟨g, 2, none⟩ = some u) ∧ w.frozen? ⟨g, 0, none⟩ = false ∧ w.frozen? ⟨g, 1, none⟩ = false ∧ w.frozen? ⟨g, 2, none⟩ = false
theorem ThreeT.same {w w' : World} {g : Nat} (h : ThreeT w g) (hs : w.heap.size ≤ w'.heap.size) (e : w'.heap[g]? = w.heap[g]?) : ThreeT w' g := by
  obtain ⟨h1, h2, h3, h4, h5, h6, h7⟩ := h
  exact ⟨Nat.lt_of_lt_of_le h1 hs, by rw [World.cell?_of_block (a := ⟨g, 0, none⟩) e]; exact h2, by rw [World.cell?_of_block (a := ⟨g, 1, none⟩) e]; exact h3, by rw [World.cell?_of_block (a := ⟨g, 2, none⟩) e]; exact h4, by rw [World.frozen?_of_block (a := ⟨g, 0, none⟩) e]; exact h5, by rw [World.frozen?_of_block (a := ⟨g, 1, none⟩) e]; exact h6, by rw [World.frozen?_of_block (a := ⟨g, 2, none⟩) e]; exact h7⟩
theorem ThreeT.new (w : World) (ty : TypeId) : ThreeT (w.alloc (.cells #[.int .i64 0, .int .i64 0, .int .i64 0] ty)) w.heap.size := by
  refine ⟨by simp, ⟨_, by simp [go_sem]; rfl⟩, ⟨_, by simp [go_sem]; rfl⟩, ⟨_, by simp [go_sem]; rfl⟩, ?_, ?_, ?_⟩ <;> simp [go_sem]
def PointsT (R : Nat) (a : Option Addr) (len cap q : Nat) (w : World) (e : Ending) (w' : World) : Prop :=
  ∃ x y z : Int, ∃ q' : Nat, e = .returned (.agg #[.int .i64 x, .int .i64 y, .int .i64 z]) ∧ q' ≤ q + 6 ∧ Rd w' R a len cap q' ∧ w.grownBy w' (some R)
set_option maxHeartbeats 4000000 in
theorem pointT_any (R : Nat) (a : Option Addr) (len cap q : Nat) (p : Int) (hp0 : -9223372036854775808 ≤ p) (hp1 : p ≤ 9223372036854775807) (w : World) (h : Rd w R a len cap q) (hq : q ≤ 900000) :
    Calls Tryz.prog 16 #[.pointer (some ⟨R, 0, none⟩), .int .i64 p] w (PointsT R a len cap q w) := by
  have hRB := h.sz
  have hla := (rd_la h)
  have T0 := ThreeT.new w 23
  have hR0 := h.alloc (.cells #[.int .i64 0, .int .i64 0, .int .i64 0] 23)
  have hg0 := grown_alloc w (.cells #[.int .i64 0, .int .i64 0, .int .i64 0] 23) (some R)
  have hne : some w.heap.size ≠ some R := fun e => by injection e with e; omega
  go_enter Tryz.func16, Tryz.ntmps16
  go_wp2_with fail
  refine (element_any R a len cap q p hp0 hp1 _ hR0 (by omega)).mono ?_
  rintro e w1 ⟨x, q1, rfl, _, _, hq1, hR1, hg1⟩
  have T1 := T0.same hg1.size (hg1.block _ T0.1 hne)
  have G1 := grown_trans hg0 hg1
  clear hR0 hg0 hg1 T0
  go_wp2_with fail
  refine (element_any R a len cap q1 p hp0 hp1 _ hR1 (by omega)).mono ?_
  rintro e w2 ⟨y, q2, rfl, _, _, hq2, hR2, hg2⟩
  have T2 := T1.same hg2.size (hg2.block _ T1.1 hne)
  have G2 := grown_trans G1 hg2
  clear hR1 hg2 T1 G1
  go_wp2_with fail
  refine (element_any R a len cap q2 p hp0 hp1 _ hR2 (by omega)).mono ?_
  rintro e w3 ⟨z, q3, rfl, _, _, hq3, hR3, hg3⟩
  have T3 := T2.same hg3.size (hg3.block _ T2.1 hne)
  have G3 := grown_trans G2 hg3
  obtain ⟨_, ⟨u0, t0⟩, ⟨u1, t1⟩, ⟨u2, t2⟩, f0, f1, f2⟩ := T3
  have B3 : Below w.heap.size w3 (((w3.setCell ⟨w.heap.size, 0, none⟩ (.int .i64 x)).setCell ⟨w.heap.size, 1, none⟩ (.int .i64 y)).setCell ⟨w.heap.size, 2, none⟩ (.int .i64 z)) :=
    Below.setCell (Below.setCell (Below.setCell ⟨rfl, rfl, rfl, Nat.le_refl _, fun _ _ => rfl⟩ (Nat.le_refl w.heap.size) _) (Nat.le_refl w.heap.size) _) (Nat.le_refl w.heap.size) _
  have HB := Lib.hid B3
  have HR3 := Lib.hid (rd_far hR3 B3.size (fun k hk => B3.block k hk) hRB hla)
  have HG := Lib.hid (grown_lowT G3 B3)
  clear hR2 hR3 hg3 T2 G2 G3 B3 h hla hne
  go_wp2_with fail
  refine bodyPost_ret (v := .agg #[.int .i64 x, .int .i64 y, .int .i64 z]) (by simp [results, Tryz.results16, go_sem, t0, t1, t2]) rfl ⟨x, y, z, q3, rfl, by omega, HR3.out, HG.out⟩
theorem QSt.of {w w' : World} {R : Nat} {a : Option Addr} {len cap q : Nat} {v : Value} {M : List Trm} (h : Rd w R a len cap 0) (hr : Rd w' R a len cap q) (hw : Row w' w.heap.size v M) (hg : w.grownBy w' (some R)) : QSt w R a len cap q v M w' := ⟨hr, hw, h.sz, rd_la h, hg⟩
/-- a prime, or a number that is none, and two lists of terms -/
def TwoT (R : Nat) (a : Option Addr) (len cap q : Nat) (w : World) (e : Ending) (w' : World) : Prop :=
  ∃ (p : Int) (v u : Value) (M N : List Trm) (q' : Nat), e = .returned (.tuple #[.int .i64 p, v, u]) ∧ (-9223372036854775808 ≤ p ∧ p ≤ 9223372036854775807) ∧ M.length ≤ 121 ∧ N.length ≤ 121 ∧ q' ≤ q + 400 ∧ Rd w' R a len cap q' ∧ Row w' w.heap.size v M ∧ Row w' w.heap.size u N ∧ w.grownBy w' (some R)
theorem below_readerT {w w1 w2 : World} (h : Below w.heap.size w w1) (hg : w1.grownBy w2 (some w.heap.size)) : Below w.heap.size w w2 :=
  h.grown hg h.size (fun k hk => by cases hk; exact Nat.le_refl _)
def DrawTT (w : World) (e : Ending) (w' : World) : Prop :=
  ∃ (p : Int) (v u : Value) (L M : List Trm), e = .returned (.tuple #[.int .i64 p, v, u]) ∧ L.length ≤ 121 ∧ M.length ≤ 121 ∧ Row w' w.heap.size v L ∧ Row w' w.heap.size u M ∧ Below w.heap.size w w'
/-- a number, some terms and a number -/
def DrawTI (w : World) (e : Ending) (w' : World) : Prop :=
  ∃ (p : Int) (v : Value) (L : List Trm) (k : Int), e = .returned (.tuple #[.int .i64 p, v, .int .i64 k]) ∧ L.length ≤ 121 ∧ (-9 ≤ k ∧ k ≤ 9) ∧ Row w' w.heap.size v L ∧ Below w.heap.size w w'
def WithT (R : Nat) (a : Option Addr) (len cap q : Nat) (w : World) (e : Ending) (w' : World) : Prop :=
  ∃ (p : Int) (v : Value) (M : List Trm) (k : Int) (q' : Nat), e = .returned (.tuple #[.int .i64 p, v, .int .i64 k]) ∧ (-9223372036854775808 ≤ p ∧ p ≤ 9223372036854775807) ∧ M.length ≤ 121 ∧ (-9 ≤ k ∧ k ≤ 9) ∧ q' ≤ q + 300 ∧ Rd w' R a len cap q' ∧ Row w' w.heap.size v M ∧ w.grownBy w' (some R)
end Go.Proofs.YtoeghbcolpailaaGreat
