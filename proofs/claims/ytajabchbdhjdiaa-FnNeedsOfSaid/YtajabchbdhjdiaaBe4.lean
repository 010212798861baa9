/-
  Contracts of the model's draws of polynomials: each hands back some terms in memory of its own and writes nothing that was there but the reader's count. Conditions: the bytes can be read.
  Contracts of the model's draws of polynomials, on: a polynomial that is sometimes spoilt, a prime and one or two of them. Conditions: the bytes can be read.
  Contracts of the model's draws of polynomials, on: two of them, with an unknown, with a point: the draws of the laws' arguments. Conditions: the bytes can be read.
  Contracts of the model's draws of chapters 5 and 10: a small prime and a polynomial. Conditions: the bytes can be read.
-/
import Derived.Test.YtajabchbdhjdiaaBe3
import Derived.Test.YtajabchbdhjdiaaBa25
namespace Go.Proofs.Ytajabchbdhjdiaa
open Go.RowKit
theorem rd_far {w w' : World} {R B : Nat} {a : Option Addr} {len cap p : Nat} (h : Rd w R a len cap p) (hs : w.heap.size ≤ w'.heap.size) (hb : ∀ k, k < B → w'.heap[k]? = w.heap[k]?) (hR : R < B) (ha : len = 0 ∨ ∀ g off, a = some ⟨g, off, none⟩ → g < B) : Rd w' R a len cap p := by
  have e := hb R hR
  refine ⟨by rw [World.cell?_of_block (a := ⟨R, 0, none⟩) e]; exact h.b0, by rw [World.cell?_of_block (a := ⟨R, 1, none⟩) e]; exact h.p1, by rw [World.frozen?_of_block (a := ⟨R, 1, none⟩) e]; exact h.f1, Nat.lt_of_lt_of_le h.sz hs, h.len_le, ?_⟩
  rcases ha with h0 | ha
  · exact .inl h0
  · rcases h.bytes with h0 | ⟨g, off, rfl, hR, hg, hc⟩
    · exact .inl h0
    · refine .inr ⟨g, off, rfl, hR, Nat.lt_of_lt_of_le hg hs, fun i hi => ?_⟩
      obtain ⟨z, z0, z1, hz⟩ := hc i hi
      exact ⟨z, z0, z1, by rw [World.cell?_of_block (a := ⟨g, off + i, none⟩) (hb g (ha g off rfl))]; exact hz⟩
theorem rd_la {w : World} {R : Nat} {a : Option Addr} {len cap p : Nat} (h : Rd w R a len cap p) : len = 0 ∨ ∀ g off, a = some ⟨g, off, none⟩ → g < w.heap.size := by
  rcases h.bytes with h0 | ⟨g, off, rfl, hR, hg, hc⟩
  · exact .inl h0
  · refine .inr fun g' off' e => ?_
    injection e with e
    injection e with e1 e2
    omega
theorem grown_below {w w' : World} {R : Nat} (h : Below w.heap.size w w') : w.grownBy w' (some R) := ⟨h.os, h.tape, h.output, h.size, fun k hk _ => h.block k hk⟩
theorem rd_on {w w' : World} {R : Nat} {a : Option Addr} {len cap p : Nat} (h : Rd w R a len cap p) (hb : Below w.heap.size w w') : Rd w' R a len cap p :=
  rd_far h hb.size (fun k hk => hb.block k hk) h.sz (rd_la h)
/-- drawing: the reader, the sum in block T and its terms -/
structure PDr (w0 : World) (R : Nat) (a : Option Addr) (len cap q T : Nat) (v : Value) (M : List Trm) (wr : World) : Prop where
  rd : Rd wr R a len cap q
  md : ModW wr T v
  row : Row wr w0.heap.size v M
  RB : R < w0.heap.size
  TB : w0.heap.size ≤ T
  la : len = 0 ∨ ∀ g off, a = some ⟨g, off, none⟩ → g < w0.heap.size
  gr : w0.grownBy wr (some R)
  nt : v.ownBlock ≠ some T
section
variable {w0 wr : World} {R : Nat} {a : Option Addr} {len cap q T : Nat} {v : Value} {M : List Trm}
theorem PDr.size (h : PDr w0 R a len cap q T v M wr) : w0.heap.size ≤ wr.heap.size := h.gr.size
theorem PDr.nR (h : PDr w0 R a len cap q T v M wr) : v.ownBlock ≠ some R := fun e => by
  have h1 := h.RB
  have := (World.ownsRow.lt h.row R e).1
  omega
theorem PDr.on (h : PDr w0 R a len cap q T v M wr) {w' : World} (hb : Below wr.heap.size wr w') : PDr w0 R a len cap q T v M w' :=
  ⟨rd_far h.rd hb.size (fun k hk => hb.block k (Nat.lt_of_lt_of_le hk h.size)) h.RB h.la, h.md.below hb, h.row.below hb, h.RB, h.TB, h.la, grown_trans h.gr (grown_below hb), h.nt⟩
theorem PDr.pk (h : PDr w0 R a len cap q T v M wr) {w' : World} {q' : Nat} (hr : Rd w' R a len cap q') (hg : wr.grownBy w' (some R)) : PDr w0 R a len cap q' T v M w' := by
  have hne : T ≠ R := by have := h.RB; have := h.TB; omega
  have hb := hg.block T h.md.sz (fun e => hne (by injection e))
  exact ⟨hr, ⟨by rw [World.cell?_of_block (a := ⟨T, 0, none⟩) hb]; exact h.md.c, by rw [World.frozen?_of_block (a := ⟨T, 0, none⟩) hb]; exact h.md.f, Nat.lt_of_lt_of_le h.md.sz hg.size⟩,
    World.ownsRow.kept (row := some R) h.row hg (.inr h.nR), h.RB, h.TB, h.la, grown_trans h.gr hg, h.nt⟩
theorem PDr.sn (h : PDr w0 R a len cap q T v M wr) (X o : Nat) (u : Value) (hv : v.ownBlock ≠ some X) (hX : w0.heap.size ≤ X) (hT : T ≠ X) : PDr w0 R a len cap q T v M (wr.setCell ⟨X, o, none⟩ u) := by
  have hk : ∀ k, k < w0.heap.size → (wr.setCell ⟨X, o, none⟩ u).heap[k]? = wr.heap[k]? := fun k hk => Below.heap_setCell _ _ _ _ (show k ≠ X by omega)
  have hbT : (wr.setCell ⟨X, o, none⟩ u).heap[T]? = wr.heap[T]? := Below.heap_setCell _ _ _ _ hT
  refine ⟨rd_far h.rd (by simp) hk h.RB h.la, ⟨by rw [World.cell?_of_block (a := ⟨T, 0, none⟩) hbT]; exact h.md.c, by rw [World.frozen?_of_block (a := ⟨T, 0, none⟩) hbT]; exact h.md.f, by simpa using h.md.sz⟩,
    World.ownsRow.kept (row := some X) h.row ⟨rfl, rfl, rfl, by simp, fun k hk hne => Below.heap_setCell _ _ _ _ (fun e => hne (by rw [e]))⟩ (.inr hv), h.RB, h.TB, h.la, ⟨h.gr.os, h.gr.tape, h.gr.output, by simpa using h.gr.size, fun k hk' hne => ?_⟩, h.nt⟩
  rw [hk k hk']; exact h.gr.block k hk' hne
theorem PDr.add (h : PDr w0 R a len cap q T v M wr) {w' : World} {e : Ending} {L' : List Trm} (hP : AddTo w0.heap.size T v L' wr e w') : e = .returned (.tuple #[]) ∧ ∃ v', PDr w0 R a len cap q T v' L' w' := by
  have hlow := hP.low h.row h.TB h.size
  obtain ⟨he, v', hS, hR, hv, _, _⟩ := hP
  exact ⟨he, v', rd_far h.rd hlow.size (fun k hk => hlow.block k hk) h.RB h.la, hS, hR, h.RB, h.TB, h.la, ⟨hlow.os.trans h.gr.os, hlow.tape.trans h.gr.tape, hlow.output.trans h.gr.output, Nat.le_trans h.gr.size hlow.size, fun k hk hne => (hlow.block k hk).trans (h.gr.block k hk hne)⟩, hv⟩
theorem PDr.new (h : PDr w0 R a len cap q T v M wr) {X : Nat} (hX : wr.heap.size ≤ X) : v.ownBlock ≠ some X := fun e => by
  have := (World.ownsRow.lt h.row X e).2
  omega
end
/-- a block that holds a term and may be written -/
structure TmA (w : World) (X : Nat) (x : Trm) : Prop where
  t : TAt w X 0 x
  f : ∀ i, w.frozen? ⟨X, i, none⟩ = false
  sz : X < w.heap.size
theorem TmA.pk {w w' : World} {X R : Nat} {x : Trm} (h : TmA w X x) (hg : w.grownBy w' (some R)) (hne : X ≠ R) : TmA w' X x := by
  have hb := hg.block X h.sz (fun e => hne (by injection e))
  obtain ⟨t0, t1, t2, t3⟩ := h.t
  exact ⟨⟨by rw [World.cell?_of_block (a := ⟨X, 0, none⟩) hb]; exact t0, by rw [World.cell?_of_block (a := ⟨X, 0 + 1, none⟩) hb]; exact t1, by rw [World.cell?_of_block (a := ⟨X, 0 + 2, none⟩) hb]; exact t2, by rw [World.cell?_of_block (a := ⟨X, 0 + 3, none⟩) hb]; exact t3⟩,
    fun i => by rw [World.frozen?_of_block (a := ⟨X, i, none⟩) hb]; exact h.f i, Nat.lt_of_lt_of_le h.sz hg.size⟩
theorem TmA.s0 {w : World} {X : Nat} {x : Trm} (h : TmA w X x) (v : Int) : TmA (w.setCell ⟨X, 0, none⟩ (.int .i64 v)) X ⟨v, x.b, x.c, x.t⟩ := by
  obtain ⟨t0, t1, t2, t3⟩ := h.t
  exact ⟨⟨World.cell?_setCell_same _ _ _ t0, by rw [World.cell?_setCell_other _ _ _ _ (by simp)]; exact t1, by rw [World.cell?_setCell_other _ _ _ _ (by simp)]; exact t2, by rw [World.cell?_setCell_other _ _ _ _ (by simp)]; exact t3⟩,
    fun i => by rw [World.frozen?_setCell]; exact h.f i, by simpa using h.sz⟩
theorem TmA.s1 {w : World} {X : Nat} {x : Trm} (h : TmA w X x) (v : Int) : TmA (w.setCell ⟨X, 1, none⟩ (.int .i64 v)) X ⟨x.a, v, x.c, x.t⟩ := by
  obtain ⟨t0, t1, t2, t3⟩ := h.t
  exact ⟨⟨by rw [World.cell?_setCell_other _ _ _ _ (by simp)]; exact t0, World.cell?_setCell_same _ _ _ t1, by rw [World.cell?_setCell_other _ _ _ _ (by simp)]; exact t2, by rw [World.cell?_setCell_other _ _ _ _ (by simp)]; exact t3⟩,
    fun i => by rw [World.frozen?_setCell]; exact h.f i, by simpa using h.sz⟩
theorem TmA.s2 {w : World} {X : Nat} {x : Trm} (h : TmA w X x) (v : Int) : TmA (w.setCell ⟨X, 2, none⟩ (.int .i64 v)) X ⟨x.a, x.b, v, x.t⟩ := by
  obtain ⟨t0, t1, t2, t3⟩ := h.t
  exact ⟨⟨by rw [World.cell?_setCell_other _ _ _ _ (by simp)]; exact t0, by rw [World.cell?_setCell_other _ _ _ _ (by simp)]; exact t1, World.cell?_setCell_same _ _ _ t2, by rw [World.cell?_setCell_other _ _ _ _ (by simp)]; exact t3⟩,
    fun i => by rw [World.frozen?_setCell]; exact h.f i, by simpa using h.sz⟩
theorem TmA.new (w : World) (x : Trm) : TmA (w.alloc (Obj.cells #[.int .i64 x.a, .int .i64 x.b, .int .i64 x.c, .int .i64 x.t] 69)) w.heap.size x :=
  ⟨by refine ⟨?_, ?_, ?_, ?_⟩ <;> simp [go_sem], fun i => World.frozen?_alloc_at _ _ _ i rfl, by simp⟩
/-- a draw of terms hands back some of them -/
def DrawT (R : Nat) (a : Option Addr) (len cap q c n : Nat) (w : World) (e : Ending) (w' : World) : Prop :=
  ∃ v M q', e = .returned v ∧ M.length ≤ n ∧ q' ≤ q + c ∧ Rd w' R a len cap q' ∧ Row w' w.heap.size v M ∧ w.grownBy w' (some R)
set_option maxRecDepth 100000 in
set_option maxHeartbeats 8000000 in
theorem terms_any (R : Nat) (a : Option Addr) (len cap q : Nat) (p m : Int) (hp : isP p = true) (hm0 : 0 ≤ m) (hm1 : m ≤ 100) (w : World) (h : Rd w R a len cap q) (hq : q ≤ 900000) :
    Calls Try.prog 132 #[.pointer (some ⟨R, 0, none⟩), .int .i64 p, .int .i64 m] w (DrawT R a len cap q 100 4 w) := by
  have hRB := h.sz
  have hpb := isP_bd hp
  have wm : IntKind.i64.wrap (m + 1) = m + 1 := IntWalk.i64_in _ (by omega)
  have S0 : PDr w R a len cap q w.heap.size (.slice none 0 0) [] (w.alloc (.cells #[.slice none 0 0] 101)) :=
    ⟨h.alloc _, ⟨by simp [go_sem], World.frozen?_alloc_at _ _ _ 0 rfl, by simp⟩, Row.nil _ _, h.sz, Nat.le_refl _, rd_la h, grown_alloc _ _ _, by simp [Value.ownBlock]⟩
  have HS0 := Lib.hid S0
  have HP := Lib.hid hp
  clear S0 h hp
  go_enter Try.func132, Try.ntmps132
  go_wp2_with fail
  refine (pick_any R a len cap q 5 _ HS0.out.rd (by omega)).mono ?_
  rintro e w1 ⟨x, rfl, x0, x1, hR1, hg1, hs1⟩
  have HS1 := Lib.hid (HS0.out.pk hR1 hg1)
  obtain ⟨n, rfl⟩ := Int.eq_ofNat_of_zero_le x0
  have hn4 : n ≤ 4 := by omega
  clear x0 x1 hR1 hg1 hs1 HS0
  go_wp2_with fail
  go_loopw [13] (fun i wr => ∃ (k q' : Nat) (v : Value) (M : List Trm), k ≤ n ∧ i = .int .i64 k ∧ M.length ≤ k ∧ Srt M ∧ Els p M ∧ q' ≤ q + 1 + 10 * k ∧ PDr w R a len cap q' w.heap.size v M wr) (fun i _ => n - (intOf i).toNat)
  case atStart => exact ⟨0, q + 1, _, [], by omega, rfl, by simp, List.Pairwise.nil, (fun y hy => by cases hy), by omega, HS1.out⟩
  case round =>
    clear HS1
    obtain ⟨k, q', v, M, hk, rfl, hM, hs, he, hq', hS⟩ := hrel
    have HSE := Lib.hid (And.intro hs he)
    clear hs he
    by_cases hlt : k < n
    · have hltp : (k : Int) < (n : Int) := by omega
      have hk0 : (0 : Int) ≤ (k : Int) := by omega
      have HS := Lib.hid hS
      clear hS
      go_wp2_with fail
      refine (pick_any R a len cap q' p wr HS.out.rd (by omega)).mono ?_
      rintro e w2 ⟨y, rfl, y0, y1, hR2, hg2, hs2⟩
      have S2 := HS.out.pk hR2 hg2
      have hyp : y < p := by omega
      obtain ⟨X, hX⟩ : ∃ X, X = w2.heap.size := ⟨_, rfl⟩
      have hXw : w.heap.size ≤ X := by rw [hX]; exact S2.size
      have hTX : w.heap.size ≠ X := by have := S2.md.sz; omega
      have hXR : X ≠ R := by omega
      have HN := Lib.hid (show v.ownBlock ≠ some X from S2.new (by omega))
      have hb3 : Below w2.heap.size w2 (w2.alloc (Obj.cells #[.int .i64 0, .int .i64 0, .int .i64 0, .int .i64 y] 69)) := Below.alloc (Below.refl _ _) (Nat.le_refl _) _
      obtain ⟨W3, hW3⟩ : ∃ W3, W3 = w2.alloc (Obj.cells #[.int .i64 0, .int .i64 0, .int .i64 0, .int .i64 y] 69) := ⟨_, rfl⟩
      have HS3 := Lib.hid (show PDr w R a len cap (q' + 1) w.heap.size v M W3 by rw [hW3]; exact S2.on hb3)
      have HT3 := Lib.hid (show TmA W3 X ⟨0, 0, 0, y⟩ by rw [hW3, hX]; exact TmA.new w2 ⟨0, 0, 0, y⟩)
      have HW3 := Lib.hid hW3
      have HX := Lib.hid hX
      clear y1 hR2 hg2 hs2 S2 hb3 hW3 hX
      go_upto_region 5 with fail
      rw [← HW3.out, ← HX.out]
      go_wp2_with fail
      refine wp_loop_rounds 4 ?_
      rw [rounds_succ]
      go_wp2_with fail
      refine (pick_any R a len cap (q' + 1) (m + 1) W3 HS3.out.rd (by omega)).mono ?_
      rintro e w4 ⟨z0, rfl, _, _, hR4, hg4, hs4⟩
      have T4 := HT3.out.pk hg4 hXR
      have c0 := T4.t.1
      have f0 := T4.f 0
      have HT4 := Lib.hid (T4.s0 z0)
      have HS4 := Lib.hid ((HS3.out.pk hR4 hg4).sn X 0 (.int .i64 z0) HN.out hXw hTX)
      clear hR4 hg4 hs4 T4 HS3 HT3
      go_wp2_with fail
      rw [rounds_succ]
      go_wp2_with fail
      clear c0 f0
      refine (pick_any R a len cap (q' + 1 + 1) (m + 1) _ HS4.out.rd (by omega)).mono ?_
      rintro e w5 ⟨z1, rfl, _, _, hR5, hg5, hs5⟩
      have T5 := HT4.out.pk hg5 hXR
      have c1 := T5.t.2.1
      have f1 := T5.f 1
      simp only [Nat.zero_add] at c1
      have HT5 := Lib.hid (T5.s1 z1)
      have HS5 := Lib.hid ((HS4.out.pk hR5 hg5).sn X 1 (.int .i64 z1) HN.out hXw hTX)
      clear hR5 hg5 hs5 T5 HS4 HT4
      go_wp2_with fail
      rw [rounds_succ]
      go_wp2_with fail
      clear c1 f1
      refine (pick_any R a len cap (q' + 1 + 1 + 1) (m + 1) _ HS5.out.rd (by omega)).mono ?_
      rintro e w6 ⟨z2, rfl, _, _, hR6, hg6, hs6⟩
      have T6 := HT5.out.pk hg6 hXR
      have c2 := T6.t.2.2.1
      have f2 := T6.f 2
      simp only [Nat.zero_add] at c2
      have HT6 := Lib.hid (T6.s2 z2)
      have HS6 := Lib.hid ((HS5.out.pk hR6 hg6).sn X 2 (.int .i64 z2) HN.out hXw hTX)
      clear hR6 hg6 hs6 T6 HS5 HT5
      go_wp2_with fail
      rw [rounds_succ]
      obtain ⟨t0, t1, t2, t3⟩ := HT6.out.t
      simp only [Nat.zero_add] at t0 t1 t2 t3
      clear c2 f2
      go_wp2_with fail
      refine (sAdd w.heap.size w.heap.size p M ⟨z0, z1, z2, y⟩ v _ HS6.out.md HS6.out.row (by omega) HSE.out.1 HS6.out.nt HP.out HSE.out.2 ⟨y0, hyp⟩ HS6.out.size).mono ?_
      rintro e w7 hP7
      obtain ⟨rfl, v', hS7⟩ := HS6.out.add hP7
      have hl7 : (addT p ⟨z0, z1, z2, y⟩ M).length ≤ M.length + 1 := by
        have := addAll_len (p := p) [⟨z0, z1, z2, y⟩] M
        simpa [addAll] using this
      have hs7 : Srt (addT p ⟨z0, z1, z2, y⟩ M) := addAll_srt (p := p) [⟨z0, z1, z2, y⟩] M HSE.out.1
      have he7 : Els p (addT p ⟨z0, z1, z2, y⟩ M) := addAll_els (p := p) (by omega) [⟨z0, z1, z2, y⟩] M (fun x hx => by
        have := List.mem_singleton.1 hx
        subst this
        exact ⟨y0, hyp⟩) HSE.out.2
      have HQ := Lib.hid (And.intro hl7 (And.intro hs7 (And.intro he7 hS7)))
      clear hP7 hl7 hs7 he7 hS7 t0 t1 t2 t3
      go_wp2_with fail
      go_roundw
      case rel => exact ⟨k + 1, q' + 1 + 1 + 1 + 1, v', _, by omega, by go_num, by have := HQ.out.1; omega, HQ.out.2.1, HQ.out.2.2.1, by omega, HQ.out.2.2.2⟩
      case measure => simp [intOf]; omega
    · have hkl : k = n := by omega
      subst hkl
      have HS := Lib.hid hS
      have s0 : (wr.alloc (Obj.cells #[] 69)).cell? ⟨w.heap.size, 0, none⟩ = some v := by
        rw [World.cell?_alloc_past _ _ _ hS.md.sz]; exact hS.md.c
      obtain ⟨v', w', hr, hrow, hbw⟩ := app_copy 27 26 27 Try.underlying27 Try.underlying26 wr w.heap.size v M hS.row (by omega)
      have HQ := Lib.hid (show DrawT R a len cap q 100 4 w (.returned v') w' from ⟨v', M, q', rfl, by omega, by omega, rd_on hS.rd hbw, row_base hrow hS.size, grown_trans hS.gr (grown_below hbw)⟩)
      clear hS hrow hbw
      go_wp2_with (at_builtin; refine Lib.wpList_append_run _ rfl _ _ 27 26 rfl _ _ rfl rfl _ _ hr ?_)
      go_ret
      exact HQ.out
end Go.Proofs.Ytajabchbdhjdiaa
namespace Go.Proofs.Ytajabchbdhjdiaa
open Go.RowKit
/-- drawing: the reader and a row of terms -/
structure QSt (w0 : World) (R : Nat) (a : Option Addr) (len cap q : Nat) (v : Value) (M : List Trm) (wr : World) : Prop where
  rd : Rd wr R a len cap q
  row : Row wr w0.heap.size v M
  RB : R < w0.heap.size
  la : len = 0 ∨ ∀ g off, a = some ⟨g, off, none⟩ → g < w0.heap.size
  gr : w0.grownBy wr (some R)
section
variable {w0 wr : World} {R : Nat} {a : Option Addr} {len cap q : Nat} {v : Value} {M : List Trm}
theorem QSt.size (h : QSt w0 R a len cap q v M wr) : w0.heap.size ≤ wr.heap.size := h.gr.size
theorem QSt.nR (h : QSt w0 R a len cap q v M wr) : v.ownBlock ≠ some R := fun e => by
  have h1 := h.RB
  have := (World.ownsRow.lt h.row R e).1
  omega
theorem QSt.on (h : QSt w0 R a len cap q v M wr) {w' : World} (hb : Below wr.heap.size wr w') : QSt w0 R a len cap q v M w' :=
  ⟨rd_far h.rd hb.size (fun k hk => hb.block k (Nat.lt_of_lt_of_le hk h.size)) h.RB h.la, h.row.below hb, h.RB, h.la, grown_trans h.gr (grown_below hb)⟩
theorem QSt.pk (h : QSt w0 R a len cap q v M wr) {w' : World} {q' : Nat} (hr : Rd w' R a len cap q') (hg : wr.grownBy w' (some R)) : QSt w0 R a len cap q' v M w' :=
  ⟨hr, World.ownsRow.kept (row := some R) h.row hg (.inr h.nR), h.RB, h.la, grown_trans h.gr hg⟩
theorem QSt.low (h : QSt w0 R a len cap q v M wr) {w' : World} {v' : Value} {M' : List Trm} (hb : Below w0.heap.size wr w') (hr : Row w' w0.heap.size v' M') : QSt w0 R a len cap q v' M' w' :=
  ⟨rd_far h.rd hb.size (fun k hk => hb.block k hk) h.RB h.la, hr, h.RB, h.la, ⟨hb.os.trans h.gr.os, hb.tape.trans h.gr.tape, hb.output.trans h.gr.output, Nat.le_trans h.gr.size hb.size, fun k hk hne => (hb.block k hk).trans (h.gr.block k hk hne)⟩⟩
/-- one term appended -/
theorem QSt.app1 (h : QSt w0 R a len cap q v M wr) (x : Trm) (hM : M.length ≤ 4000) (ty : TypeId) :
    ∃ v' w', (Builtin.append_ #[27, 27] ty #[v, .slice (some ⟨wr.heap.size, 0, none⟩) 1 1]).run Try.prog (wr.alloc (Obj.cells #[.int .i64 x.a, .int .i64 x.b, .int .i64 x.c, .int .i64 x.t] 69)) = .ok v' w' ∧ QSt w0 R a len cap q v' (M ++ [x]) w' := by
  obtain ⟨i0, hi, hz0, hz1, hz2⟩ := info_parts infoT
  have h1 := h.on (w' := wr.alloc (Obj.cells #[.int .i64 x.a, .int .i64 x.b, .int .i64 x.c, .int .i64 x.t] 69)) (Below.alloc (Below.refl _ _) (Nat.le_refl _) _)
  obtain ⟨t0, t1, t2, t3⟩ := (TmA.new wr x).t
  obtain ⟨v', w', hr, hown, hgrow, _, _⟩ := run_append_own_at (P := Try.prog) (wr.alloc (Obj.cells #[.int .i64 x.a, .int .i64 x.b, .int .i64 x.c, .int .i64 x.t] 69)) w0.heap.size 27 ty 69 i0 (.agg #[.int .i64 0, .int .i64 0, .int .i64 0, .int .i64 0]) 4 32 Try.underlying27 hi hz0 hz1 hz2 rfl (by decide) v M.length (flat M) h1.row ⟨wr.heap.size, 0, none⟩ 1 1 x.cs rfl
    (fun j u hu => by
      match j, hu with
      | 0, hu => simp [Trm.cs] at hu; subst hu; exact t0
      | 1, hu => simp [Trm.cs] at hu; subst hu; exact t1
      | 2, hu => simp [Trm.cs] at hu; subst hu; exact t2
      | 3, hu => simp [Trm.cs] at hu; subst hu; exact t3
      | j + 4, hu => simp [Trm.cs] at hu)
    (fun u hu => flat_cell [x] u (by simpa [flat] using hu)) (by unfold maxLen; omega) (by omega) h1.size
  refine ⟨v', w', hr, h1.low (h1.row.low h1.size hgrow) ?_⟩
  unfold Row
  rw [flat_app, flat_one]
  simpa using hown
/-- a row appended to itself -/
theorem QSt.app2 (h : QSt w0 R a len cap q v M wr) (hM : M.length ≤ 4000) (ty : TypeId) :
    ∃ v' w', (Builtin.append_ #[27, 27] ty #[v, v]).run Try.prog wr = .ok v' w' ∧ QSt w0 R a len cap q v' (M ++ M) w' := by
  obtain ⟨i0, hi, hz0, hz1, hz2⟩ := info_parts infoT
  rcases h.row.shape with ⟨rfl, rfl⟩ | ⟨g, c, rfl, hB, hg, hn, hm⟩
  · exact ⟨.slice none 0 0, wr, by simp [Builtin.append_, run_underlying Try.underlying27, sizeOf, typeInfo, hi, Builtin.lenOf, Builtin.firstCells], h⟩
  · obtain ⟨v', w', hr, hown, hgrow, _, _⟩ := run_append_own_at (P := Try.prog) wr w0.heap.size 27 ty 69 i0 (.agg #[.int .i64 0, .int .i64 0, .int .i64 0, .int .i64 0]) 4 32 Try.underlying27 hi hz0 hz1 hz2 rfl (by decide) _ M.length (flat M) h.row ⟨g, 0, none⟩ M.length c (flat M) (flat_len M)
      (World.ownsRow.cells h.row rfl) (flat_cell M) (by unfold maxLen; omega) (by omega) h.size
    refine ⟨v', w', hr, h.low (h.row.low h.size hgrow) ?_⟩
    unfold Row
    rw [flat_app, List.length_append]
    exact hown
end
set_option maxRecDepth 100000 in
set_option maxHeartbeats 8000000 in
theorem bad2_any (R : Nat) (a : Option Addr) (len cap q : Nat) (f : Value) (L : List Trm) (hL : L.length ≤ 60) (w : World) (h : Rd w R a len cap q) (hf : Trms w f L) (hq : q ≤ 900000) :
    Calls Try.prog 131 #[.pointer (some ⟨R, 0, none⟩), f] w (DrawT R a len cap q 10 121 w) := by
  have hRB := h.sz
  obtain ⟨v0, w0, hr0, hrow0, hbw0⟩ := app_copyT 27 27 27 Try.underlying27 Try.underlying27 w f L hf (by omega)
  have S0 : QSt w R a len cap q v0 L w0 := ⟨rd_on h hbw0, hrow0, h.sz, rd_la h, grown_below hbw0⟩
  have HS0 := Lib.hid S0
  clear S0 h hf hrow0 hbw0
  go_enter Try.func131, Try.ntmps131
  go_wp2_with (at_builtin; refine Lib.wpList_append_run _ rfl _ _ 27 27 rfl _ _ rfl rfl _ _ hr0 ?_)
  clear hr0
  refine (pick_any R a len cap q 30 w0 HS0.out.rd (by omega)).mono ?_
  rintro e w2 ⟨x, rfl, x0, x1, hR2, hg2, hs2⟩
  have HS2 := Lib.hid (HS0.out.pk hR2 hg2)
  clear x1 hR2 hg2 hs2 HS0
  cases e0 : (x == 0)
  · cases e1 : (x == 1)
    · cases e2 : (x == 2)
      · go_wp2_with fail
        go_ret
        exact ⟨_, L, q + 1, rfl, by omega, by omega, HS2.out.rd, HS2.out.row, HS2.out.gr⟩
      · go_wp2_with fail
        go_loopw [5, 32] (fun v i wr => ∃ (k : Nat) (M : List Trm), k ≤ 61 ∧ i = .int .i64 k ∧ M.length ≤ 60 + k ∧ QSt w R a len cap (q + 1) v M wr) (fun _ i _ => 61 - (intOf i).toNat)
        case atStart => exact ⟨0, L, by omega, rfl, by omega, HS2.out⟩
        case round =>
          clear HS2
          obtain ⟨k, M, hk, rfl, hM, hS⟩ := hrel
          by_cases hlt : k < 61
          · have hltp : (k : Int) < 61 := by omega
            have hk0 : (0 : Int) ≤ (k : Int) := by omega
            obtain ⟨r1, hr1⟩ : ∃ r1 : Int, r1 = ((k % 10 : Nat) : Int) := ⟨_, rfl⟩
            obtain ⟨r2, hr2⟩ : ∃ r2 : Int, r2 = ((k % 7 : Nat) : Int) := ⟨_, rfl⟩
            have q1 : (k : Int).tmod 10 = r1 := by rw [hr1]; rw [show (10 : Int) = ((10 : Nat) : Int) from rfl, ← Int.ofNat_tmod]
            have q2 : (k : Int) % 10 = r1 := by rw [hr1]; simp
            have q3 : (k : Int).tmod 7 = r2 := by rw [hr2]; rw [show (7 : Int) = ((7 : Nat) : Int) from rfl, ← Int.ofNat_tmod]
            have q4 : (k : Int) % 7 = r2 := by rw [hr2]; simp
            obtain ⟨v', w', hr, hS'⟩ := hS.app1 ⟨0, r1, r2, 1⟩ (by omega) 27
            have HQ := Lib.hid hS'
            clear hS hS' hr1 hr2
            go_wp2_with (at_builtin; refine Lib.wpList_append_run _ rfl _ _ 27 27 rfl _ _ rfl rfl _ _ hr ?_)
            go_roundw
            case rel => exact ⟨k + 1, _, by omega, by go_num, by simp; omega, HQ.out⟩
            case measure => simp [intOf]; omega
          · have hkl : k = 61 := by omega
            subst hkl
            have HS := Lib.hid hS
            clear hS
            go_wp2_with fail
            go_ret
            exact ⟨_, M, q + 1, rfl, by omega, by omega, HS.out.rd, HS.out.row, HS.out.gr⟩
    · obtain ⟨v', w', hr, hS'⟩ := HS2.out.app2 (by omega) 27
      have HQ := Lib.hid hS'
      clear hS' HS2
      go_wp2_with (at_builtin; refine Lib.wpList_append_run _ rfl _ _ 27 27 rfl _ _ rfl rfl _ _ hr ?_)
      go_ret
      exact ⟨_, _, q + 1, rfl, by simp; omega, by omega, HQ.out.rd, HQ.out.row, HQ.out.gr⟩
  · go_wp2_with fail
    refine (num_new R a len cap (q + 1) [0, 9, 10, -1] 4 rfl _ w2 HS2.out.rd (by omega) (by simp) (by simp) ?_).mono ?_
    · intro j hj
      have : j = 0 ∨ j = 1 ∨ j = 2 ∨ j = 3 := by simp at hj; omega
      rcases this with rfl | rfl | rfl | rfl
      all_goals rfl
    rintro e w3 ⟨y1, rfl, _, hRy1, hgy1⟩
    have HSy1 := Lib.hid ((HS2.out.on (w' := w2.alloc (.cells #[.int .i64 0, .int .i64 9, .int .i64 10, .int .i64 (-1)] 3)) (Below.alloc (Below.refl _ _) (Nat.le_refl _) _)).pk hRy1 hgy1)
    clear hRy1 hgy1
    go_wp2_with fail
    refine (num_new R a len cap (q + 1 + 1) [1, 0, 13, -1] 4 rfl _ w3 HSy1.out.rd (by omega) (by simp) (by simp) ?_).mono ?_
    · intro j hj
      have : j = 0 ∨ j = 1 ∨ j = 2 ∨ j = 3 := by simp at hj; omega
      rcases this with rfl | rfl | rfl | rfl
      all_goals rfl
    rintro e w4 ⟨y2, rfl, _, hRy2, hgy2⟩
    have S4 := (HSy1.out.on (w' := w3.alloc (.cells #[.int .i64 1, .int .i64 0, .int .i64 13, .int .i64 (-1)] 3)) (Below.alloc (Below.refl _ _) (Nat.le_refl _) _)).pk hRy2 hgy2
    obtain ⟨v', w', hr, hS'⟩ := S4.app1 ⟨y1, 0, 0, y2⟩ (by omega) 27
    have HQ := Lib.hid hS'
    clear hRy2 hgy2 S4 hS' HSy1 HS2
    go_wp2_with (at_builtin; refine Lib.wpList_append_run _ rfl _ _ 27 27 rfl _ _ rfl rfl _ _ hr ?_)
    go_ret
    exact ⟨_, _, q + 1 + 1 + 1, rfl, by simp; omega, by omega, HQ.out.rd, HQ.out.row, HQ.out.gr⟩
theorem field_pr (p : Int) (w : World) : Calls Try.prog 133 #[.int .i64 p] w fun e w' => ∃ q : Int, e = .returned (.int .i64 q) ∧ isP q = true ∧ w = w' := by
  cases hp : isP p
  · have HP := Lib.hid hp
    clear hp
    go_enter Try.func133, Try.ntmps133
    go_wp2_with fail
    refine (sPV_no p _ HP.out).mono ?_
    rintro e w1 ⟨rfl, rfl⟩
    go_wp2
    go_ret
    exact ⟨5, rfl, rfl, rfl⟩
  · have HP := Lib.hid hp
    clear hp
    go_enter Try.func133, Try.ntmps133
    go_wp2_with fail
    refine (sPV_yes p _ HP.out).mono ?_
    rintro e w1 ⟨rfl, rfl⟩
    go_wp2
    go_ret
    exact ⟨p, rfl, HP.out, rfl⟩
/-- a prime, or a number that is none, and some terms -/
def OneT (R : Nat) (a : Option Addr) (len cap q : Nat) (w : World) (e : Ending) (w' : World) : Prop :=
  ∃ (p : Int) (v : Value) (M : List Trm) (q' : Nat), e = .returned (.tuple #[.int .i64 p, v]) ∧ (-9223372036854775808 ≤ p ∧ p ≤ 9223372036854775807) ∧ M.length ≤ 121 ∧ q' ≤ q + 200 ∧ Rd w' R a len cap q' ∧ Row w' w.heap.size v M ∧ w.grownBy w' (some R)
end Go.Proofs.Ytajabchbdhjdiaa
namespace Go.Proofs.Ytajabchbdhjdiaa
open Go.RowKit
theorem grown_lowT {w w1 w2 : World} {R : Nat} (h : w.grownBy w1 (some R)) (hb : Below w.heap.size w1 w2) : w.grownBy w2 (some R) :=
  ⟨hb.os.trans h.os, hb.tape.trans h.tape, hb.output.trans h.output, Nat.le_trans h.size hb.size, fun k hk hne => (hb.block k hk).trans (h.block k hk hne)⟩
/-- three cells that may be written -/
def ThreeT (w : World) (g : Nat) : Prop := g < w.heap.size ∧ (∃ u, w.cell? ⟨g, 0, none⟩ = some u) ∧ (∃ u, w.cell? ⟨g, 1, none⟩ = some u) ∧ (∃ u, w.cell? ⟨g, 2, none⟩ = some u) ∧ w.frozen? ⟨g, 0, none⟩ = false ∧ w.frozen? ⟨g, 1, none⟩ = false ∧ w.frozen? ⟨g, 2, none⟩ = false
theorem ThreeT.same {w w' : World} {g : Nat} (h : ThreeT w g) (hs : w.heap.size ≤ w'.heap.size) (e : w'.heap[g]? = w.heap[g]?) : ThreeT w' g := by
  obtain ⟨h1, h2, h3, h4, h5, h6, h7⟩ := h
  exact ⟨Nat.lt_of_lt_of_le h1 hs, by rw [World.cell?_of_block (a := ⟨g, 0, none⟩) e]; exact h2, by rw [World.cell?_of_block (a := ⟨g, 1, none⟩) e]; exact h3, by rw [World.cell?_of_block (a := ⟨g, 2, none⟩) e]; exact h4, by rw [World.frozen?_of_block (a := ⟨g, 0, none⟩) e]; exact h5, by rw [World.frozen?_of_block (a := ⟨g, 1, none⟩) e]; exact h6, by rw [World.frozen?_of_block (a := ⟨g, 2, none⟩) e]; exact h7⟩
theorem ThreeT.new (w : World) (ty : TypeId) : ThreeT (w.alloc (.cells #[.int .i64 0, .int .i64 0, .int .i64 0] ty)) w.heap.size := by
  refine ⟨by simp, ⟨_, by simp [go_sem]; rfl⟩, ⟨_, by simp [go_sem]; rfl⟩, ⟨_, by simp [go_sem]; rfl⟩, ?_, ?_, ?_⟩ <;> simp [go_sem]
def PointsT (R : Nat) (a : Option Addr) (len cap q : Nat) (w : World) (e : Ending) (w' : World) : Prop :=
  ∃ x y z : Int, ∃ q' : Nat, e = .returned (.agg #[.int .i64 x, .int .i64 y, .int .i64 z]) ∧ q' ≤ q + 6 ∧ Rd w' R a len cap q' ∧ w.grownBy w' (some R)
theorem QSt.of {w w' : World} {R : Nat} {a : Option Addr} {len cap q : Nat} {v : Value} {M : List Trm} (h : Rd w R a len cap 0) (hr : Rd w' R a len cap q) (hw : Row w' w.heap.size v M) (hg : w.grownBy w' (some R)) : QSt w R a len cap q v M w' := ⟨hr, hw, h.sz, rd_la h, hg⟩
/-- a prime, or a number that is none, and two lists of terms -/
def TwoT (R : Nat) (a : Option Addr) (len cap q : Nat) (w : World) (e : Ending) (w' : World) : Prop :=
  ∃ (p : Int) (v u : Value) (M N : List Trm) (q' : Nat), e = .returned (.tuple #[.int .i64 p, v, u]) ∧ (-9223372036854775808 ≤ p ∧ p ≤ 9223372036854775807) ∧ M.length ≤ 121 ∧ N.length ≤ 121 ∧ q' ≤ q + 400 ∧ Rd w' R a len cap q' ∧ Row w' w.heap.size v M ∧ Row w' w.heap.size u N ∧ w.grownBy w' (some R)
theorem below_readerT {w w1 w2 : World} (h : Below w.heap.size w w1) (hg : w1.grownBy w2 (some w.heap.size)) : Below w.heap.size w w2 :=
  h.grown hg h.size (fun k hk => by cases hk; exact Nat.le_refl _)
def DrawTT (w : World) (e : Ending) (w' : World) : Prop :=
  ∃ (p : Int) (v u : Value) (L M : List Trm), e = .returned (.tuple #[.int .i64 p, v, u]) ∧ L.length ≤ 121 ∧ M.length ≤ 121 ∧ Row w' w.heap.size v L ∧ Row w' w.heap.size u M ∧ Below w.heap.size w w'
/-- a number, some terms and a number -/
def DrawTI (w : World) (e : Ending) (w' : World) : Prop :=
  ∃ (p : Int) (v : Value) (L : List Trm) (k : Int), e = .returned (.tuple #[.int .i64 p, v, .int .i64 k]) ∧ L.length ≤ 121 ∧ (-9 ≤ k ∧ k ≤ 9) ∧ Row w' w.heap.size v L ∧ Below w.heap.size w w'
def WithT (R : Nat) (a : Option Addr) (len cap q : Nat) (w : World) (e : Ending) (w' : World) : Prop :=
  ∃ (p : Int) (v : Value) (M : List Trm) (k : Int) (q' : Nat), e = .returned (.tuple #[.int .i64 p, v, .int .i64 k]) ∧ (-9223372036854775808 ≤ p ∧ p ≤ 9223372036854775807) ∧ M.length ≤ 121 ∧ (-9 ≤ k ∧ k ≤ 9) ∧ q' ≤ q + 300 ∧ Rd w' R a len cap q' ∧ Row w' w.heap.size v M ∧ w.grownBy w' (some R)
end Go.Proofs.Ytajabchbdhjdiaa
namespace Go.Proofs.Ytajabchbdhjdiaa
open Go.RowKit

set_option maxRecDepth 10000 in
set_option maxHeartbeats 4000000 in
theorem small5_any (R : Nat) (a : Option Addr) (len cap q : Nat) (w : World) (h : Rd w R a len cap q) (hq : q ≤ 900000) :
    Calls Try.prog 137 #[.pointer (some ⟨R, 0, none⟩)] w fun e w' => ∃ k : Int, e = .returned (.int .i64 k) ∧ (-9223372036854775808 ≤ k ∧ k ≤ 9223372036854775807) ∧ Rd w' R a len cap (q + 1) ∧ w.grownBy w' (some R) := by
  go_enter Try.func137, Try.ntmps137
  go_wp2_with fail
  refine (num_new R a len cap q [3, 2, 5, 3, 2, 5, 3, 7, 4, 0] 10 rfl _ w h (by omega) (by simp) (by simp) ?_).mono ?_
  · intro j hj
    have : j = 0 ∨ j = 1 ∨ j = 2 ∨ j = 3 ∨ j = 4 ∨ j = 5 ∨ j = 6 ∨ j = 7 ∨ j = 8 ∨ j = 9 := by simp at hj; omega
    rcases this with rfl | rfl | rfl | rfl | rfl | rfl | rfl | rfl | rfl | rfl
    all_goals rfl
  rintro e w3 ⟨y, rfl, hy, hR3, hg3⟩
  have hy9 : -9223372036854775808 ≤ y ∧ y ≤ 9223372036854775807 := by simp at hy; omega
  have HR := Lib.hid hR3
  have HG := Lib.hid (grown_trans (grown_alloc w (.cells #[.int .i64 3, .int .i64 2, .int .i64 5, .int .i64 3, .int .i64 2, .int .i64 5, .int .i64 3, .int .i64 7, .int .i64 4, .int .i64 0] 3) (some R)) hg3)
  clear hR3 hg3 hy h
  go_wp2_with fail
  refine bodyPost_ret (v := .int .i64 y) (by simp [results, Try.results137, go_sem]) rfl ⟨y, rfl, hy9, HR.out, HG.out⟩
set_option maxRecDepth 10000 in
set_option maxHeartbeats 4000000 in
theorem some5_any (R : Nat) (a : Option Addr) (len cap : Nat) (w : World) (h : Rd w R a len cap 0) :
    Calls Try.prog 94 #[.pointer (some ⟨R, 0, none⟩)] w (OneT R a len cap 0 w) := by
  have hs0 := h.sz
  go_enter Try.func94, Try.ntmps94
  go_wp2_with fail
  refine (small5_any R a len cap 0 w h (by omega)).mono ?_
  rintro e w1 ⟨p, rfl, hpb, hR1, hg1⟩
  have HG1 := Lib.hid hg1
  clear hg1
  go_wp2_with fail
  refine (field_pr p w1).mono ?_
  rintro e w2 ⟨f, rfl, hf, rfl⟩
  go_wp2_with fail
  refine (num_new R a len cap 1 [2, 1, 4, 3, 7] 5 rfl _ w1 hR1 (by omega) (by simp) (by simp) ?_).mono ?_
  · intro j hj
    have : j = 0 ∨ j = 1 ∨ j = 2 ∨ j = 3 ∨ j = 4 := by simp at hj; omega
    rcases this with rfl | rfl | rfl | rfl | rfl
    all_goals rfl
  rintro e w3 ⟨y, rfl, hy, hR3, hg3⟩
  have hy9 : 0 ≤ y ∧ y ≤ 9 := by simp at hy; omega
  have HG3 := Lib.hid (grown_trans HG1.out (grown_trans (grown_alloc w1 (.cells #[.int .i64 2, .int .i64 1, .int .i64 4, .int .i64 3, .int .i64 7] 3) (some R)) hg3))
  clear hg3 hR1 hy HG1
  go_wp2_with fail
  refine (terms_any R a len cap (1 + 1) f y hf (by omega) (by omega) _ hR3 (by omega)).mono ?_
  rintro e w4 ⟨v, M, q4, rfl, hM, hq4, hR4, hr4, hg4⟩
  have HG4 := Lib.hid (grown_trans HG3.out hg4)
  have hT4 := (hr4.own (by omega)).trms
  clear hr4 hg4 hR3 HG3
  go_wp2_with fail
  refine (bad2_any R a len cap q4 v M (by omega) w4 hR4 hT4 (by omega)).mono ?_
  rintro e w5 ⟨v5, M5, q5, rfl, hM5, hq5, hR5, hr5, hg5⟩
  have hg5' := grown_trans HG4.out hg5
  have hsz := HG4.out.size
  clear hT4 hR4 HG4
  go_wp2_with fail
  refine bodyPost_ret (v := .tuple #[.int .i64 p, v5]) (by simp [results, Try.results94, go_sem]) rfl ⟨p, v5, M5, q5, rfl, hpb, hM5, by omega, hR5, row_base hr5 hsz, hg5'⟩
set_option maxRecDepth 10000 in
set_option maxHeartbeats 4000000 in
theorem some10_any (R : Nat) (a : Option Addr) (len cap : Nat) (w : World) (h : Rd w R a len cap 0) :
    Calls Try.prog 89 #[.pointer (some ⟨R, 0, none⟩)] w (OneT R a len cap 0 w) := by
  have hs0 := h.sz
  go_enter Try.func89, Try.ntmps89
  go_wp2_with fail
  refine (num_new R a len cap 0 [3, 2, 3, 2, 3, 2, 5, 4] 8 rfl _ w h (by omega) (by simp) (by simp) ?_).mono ?_
  · intro j hj
    have : j = 0 ∨ j = 1 ∨ j = 2 ∨ j = 3 ∨ j = 4 ∨ j = 5 ∨ j = 6 ∨ j = 7 := by simp at hj; omega
    rcases this with rfl | rfl | rfl | rfl | rfl | rfl | rfl | rfl
    all_goals rfl
  rintro e w1 ⟨p, rfl, hpy, hR1, hg1⟩
  have hpb : -9223372036854775808 ≤ p ∧ p ≤ 9223372036854775807 := by simp at hpy; omega
  replace hg1 := grown_trans (grown_alloc w (.cells #[.int .i64 3, .int .i64 2, .int .i64 3, .int .i64 2, .int .i64 3, .int .i64 2, .int .i64 5, .int .i64 4] 3) (some R)) hg1
  clear hpy
  have HG1 := Lib.hid hg1
  clear hg1
  go_wp2_with fail
  refine (field_pr p w1).mono ?_
  rintro e w2 ⟨f, rfl, hf, rfl⟩
  go_wp2_with fail
  refine (num_new R a len cap 1 [2, 1, 3] 3 rfl _ w1 hR1 (by omega) (by simp) (by simp) ?_).mono ?_
  · intro j hj
    have : j = 0 ∨ j = 1 ∨ j = 2 := by simp at hj; omega
    rcases this with rfl | rfl | rfl
    all_goals rfl
  rintro e w3 ⟨y, rfl, hy, hR3, hg3⟩
  have hy9 : 0 ≤ y ∧ y ≤ 9 := by simp at hy; omega
  have HG3 := Lib.hid (grown_trans HG1.out (grown_trans (grown_alloc w1 (.cells #[.int .i64 2, .int .i64 1, .int .i64 3] 3) (some R)) hg3))
  clear hg3 hR1 hy HG1
  go_wp2_with fail
  refine (terms_any R a len cap (1 + 1) f y hf (by omega) (by omega) _ hR3 (by omega)).mono ?_
  rintro e w4 ⟨v, M, q4, rfl, hM, hq4, hR4, hr4, hg4⟩
  have HG4 := Lib.hid (grown_trans HG3.out hg4)
  have hT4 := (hr4.own (by omega)).trms
  clear hr4 hg4 hR3 HG3
  go_wp2_with fail
  refine (bad2_any R a len cap q4 v M (by omega) w4 hR4 hT4 (by omega)).mono ?_
  rintro e w5 ⟨v5, M5, q5, rfl, hM5, hq5, hR5, hr5, hg5⟩
  have hg5' := grown_trans HG4.out hg5
  have hsz := HG4.out.size
  clear hT4 hR4 HG4
  go_wp2_with fail
  refine bodyPost_ret (v := .tuple #[.int .i64 p, v5]) (by simp [results, Try.results89, go_sem]) rfl ⟨p, v5, M5, q5, rfl, hpb, hM5, by omega, hR5, row_base hr5 hsz, hg5'⟩
/-- a number and some terms -/
def DrawT1 (w : World) (e : Ending) (w' : World) : Prop :=
  ∃ (p : Int) (v : Value) (L : List Trm), e = .returned (.tuple #[.int .i64 p, v]) ∧ L.length ≤ 121 ∧ Row w' w.heap.size v L ∧ Below w.heap.size w w'
set_option maxHeartbeats 1000000 in
theorem drawFirstNonzero (a : Option Addr) (len cap : Nat) (w : World) (h : ByteRow w a len cap) :
    Calls Try.prog 57 #[.slice a len cap] w (DrawT1 w) := by
  go_enter Try.func57, Try.ntmps57
  go_wp2_with fail
  refine (open_any a len cap w h).mono ?_
  rintro e w1 ⟨a1, l1, c1, rfl, hR1, hb1⟩
  go_wp2_with fail
  refine (some5_any w.heap.size a1 l1 c1 w1 hR1).mono ?_
  rintro e w2 ⟨p, v, M, q, rfl, hp, hM, hq, hR2, hr2, hg2⟩
  have hO := Lib.hid (row_base hr2 hb1.size)
  have hB := Lib.hid (below_readerT hb1 hg2)
  clear hR1 hR2 hr2 hb1 hg2
  go_wp2_with fail
  refine bodyPost_ret (v := .tuple #[.int .i64 p, v]) (by simp [results, Try.results57, go_sem]) rfl ⟨p, v, M, rfl, hM, hO.out, hB.out⟩
set_option maxHeartbeats 1000000 in
theorem drawNeedsOf (a : Option Addr) (len cap : Nat) (w : World) (h : ByteRow w a len cap) :
    Calls Try.prog 47 #[.slice a len cap] w (DrawT1 w) := by
  go_enter Try.func47, Try.ntmps47
  go_wp2_with fail
  refine (open_any a len cap w h).mono ?_
  rintro e w1 ⟨a1, l1, c1, rfl, hR1, hb1⟩
  go_wp2_with fail
  refine (some5_any w.heap.size a1 l1 c1 w1 hR1).mono ?_
  rintro e w2 ⟨p, v, M, q, rfl, hp, hM, hq, hR2, hr2, hg2⟩
  have hO := Lib.hid (row_base hr2 hb1.size)
  have hB := Lib.hid (below_readerT hb1 hg2)
  clear hR1 hR2 hr2 hb1 hg2
  go_wp2_with fail
  refine bodyPost_ret (v := .tuple #[.int .i64 p, v]) (by simp [results, Try.results47, go_sem]) rfl ⟨p, v, M, rfl, hM, hO.out, hB.out⟩
set_option maxHeartbeats 1000000 in
theorem drawValuesOf (a : Option Addr) (len cap : Nat) (w : World) (h : ByteRow w a len cap) :
    Calls Try.prog 44 #[.slice a len cap] w (DrawT1 w) := by
  go_enter Try.func44, Try.ntmps44
  go_wp2_with fail
  refine (open_any a len cap w h).mono ?_
  rintro e w1 ⟨a1, l1, c1, rfl, hR1, hb1⟩
  go_wp2_with fail
  refine (some10_any w.heap.size a1 l1 c1 w1 hR1).mono ?_
  rintro e w2 ⟨p, v, M, q, rfl, hp, hM, hq, hR2, hr2, hg2⟩
  have hO := Lib.hid (row_base hr2 hb1.size)
  have hB := Lib.hid (below_readerT hb1 hg2)
  clear hR1 hR2 hr2 hb1 hg2
  go_wp2_with fail
  refine bodyPost_ret (v := .tuple #[.int .i64 p, v]) (by simp [results, Try.results44, go_sem]) rfl ⟨p, v, M, rfl, hM, hO.out, hB.out⟩
end Go.Proofs.Ytajabchbdhjdiaa
