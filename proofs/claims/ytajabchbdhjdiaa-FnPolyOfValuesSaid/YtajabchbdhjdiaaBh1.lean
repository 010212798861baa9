/-
  Contract of the model's draw of a list of values. Conditions: the bytes can be read.
-/
import Derived.Test.YtajabchbdhjdiaaBe4
import Derived.Test.YtajabchbdhjdiaaBa14
import Derived.Test.YtajabchbdhjdiaaBa9
import Derived.Maps.AppendAt
namespace Go.Proofs.Ytajabchbdhjdiaa
set_option linter.unusedVariables false
open Go.RowKit
/-- drawing: the reader and a row of numbers -/
structure QSi (w0 : World) (R : Nat) (a : Option Addr) (len cap q : Nat) (v : Value) (M : List Int) (wr : World) : Prop where
  rd : Rd wr R a len cap q
  row : RowN wr w0.heap.size v M
  RB : R < w0.heap.size
  la : len = 0 ∨ ∀ g off, a = some ⟨g, off, none⟩ → g < w0.heap.size
  gr : w0.grownBy wr (some R)
section
variable {w0 wr : World} {R : Nat} {a : Option Addr} {len cap q : Nat} {v : Value} {M : List Int}
theorem QSi.size (h : QSi w0 R a len cap q v M wr) : w0.heap.size ≤ wr.heap.size := h.gr.size
theorem QSi.nR (h : QSi w0 R a len cap q v M wr) : v.ownBlock ≠ some R := fun e => by
  have h1 := h.RB
  have := (World.ownsRow.lt h.row R e).1
  omega
theorem QSi.on (h : QSi w0 R a len cap q v M wr) {w' : World} (hb : Below wr.heap.size wr w') : QSi w0 R a len cap q v M w' :=
  ⟨rd_far h.rd hb.size (fun k hk => hb.block k (Nat.lt_of_lt_of_le hk h.size)) h.RB h.la, h.row.below hb, h.RB, h.la, grown_trans h.gr (grown_below hb)⟩
theorem QSi.pk (h : QSi w0 R a len cap q v M wr) {w' : World} {q' : Nat} (hr : Rd w' R a len cap q') (hg : wr.grownBy w' (some R)) : QSi w0 R a len cap q' v M w' :=
  ⟨hr, World.ownsRow.kept (row := some R) h.row hg (.inr h.nR), h.RB, h.la, grown_trans h.gr hg⟩
theorem QSi.low (h : QSi w0 R a len cap q v M wr) {w' : World} {v' : Value} {M' : List Int} (hb : Below w0.heap.size wr w') (hr : RowN w' w0.heap.size v' M') : QSi w0 R a len cap q v' M' w' :=
  ⟨rd_far h.rd hb.size (fun k hk => hb.block k hk) h.RB h.la, hr, h.RB, h.la, ⟨hb.os.trans h.gr.os, hb.tape.trans h.gr.tape, hb.output.trans h.gr.output, Nat.le_trans h.gr.size hb.size, fun k hk hne => (hb.block k hk).trans (h.gr.block k hk hne)⟩⟩
/-- one number appended -/
theorem QSi.app (h : QSi w0 R a len cap q v M wr) (x : Int) (hM : M.length ≤ 4000) (ty : TypeId) :
    ∃ v' w', (Builtin.append_ #[24, 24] ty #[v, .slice (some ⟨wr.heap.size, 0, none⟩) 1 1]).run Try.prog (wr.alloc (Obj.cells #[.int .i64 x] 3)) = .ok v' w' ∧ QSi w0 R a len cap q v' (M ++ [x]) w' := by
  obtain ⟨i0, hi, hz0, hz1, hz2⟩ := info_parts infoN
  have hal : Below wr.heap.size wr (wr.alloc (Obj.cells #[.int .i64 x] 3)) := Below.alloc (Below.refl _ _) (Nat.le_refl _) _
  have h1 := h.on hal
  obtain ⟨v', w', hr, hown, hgrow, _, _⟩ := run_append_own_at (P := Try.prog) (wr.alloc (Obj.cells #[.int .i64 x] 3)) w0.heap.size 24 ty 3 i0 (.int .i64 0) 1 8 Try.underlying24 hi hz0 hz1 hz2 rfl (by decide) v M.length (M.map (Value.int .i64)) h1.row ⟨wr.heap.size, 0, none⟩ 1 1 [.int .i64 x] rfl
    (fun j u hu => by
      match j, hu with
      | 0, hu =>
        simp at hu
        subst hu
        exact World.cell?_alloc_at _ _ _ 0 rfl
      | j + 1, hu => simp at hu)
    (fun u hu => by
      simp at hu
      subst hu
      rfl) (by unfold maxLen; omega) (by omega) h1.size
  obtain ⟨k1, k2⟩ := rowN_snoc (wr := wr) (k := x) h.row (h.size |> fun hs => (Below.refl w0.heap.size wr)) h.size hown hgrow
  exact ⟨v', w', hr, h1.low ((Below.refl w0.heap.size _).grown hgrow h1.size (fun j hj => (World.ownsRow.lt h1.row j hj).1)) k1⟩
end
/-- a number and a list of numbers -/
def DrawPL (w : World) (e : Ending) (w' : World) : Prop :=
  ∃ (p : Int) (v : Value) (L : List Int), e = .returned (.tuple #[.int .i64 p, v]) ∧ L.length ≤ 28 ∧ Ints w' v L ∧ Below w.heap.size w w'
set_option maxRecDepth 100000 in
set_option maxHeartbeats 16000000 in
theorem drawPolyOfValues (a : Option Addr) (len cap : Nat) (w : World) (h : ByteRow w a len cap) :
    Calls Try.prog 40 #[.slice a len cap] w (DrawPL w) := by
  go_enter Try.func40, Try.ntmps40
  go_wp2_with fail
  refine (open_any a len cap w h).mono ?_
  rintro e w1 ⟨a1, l1, c1, rfl, hR1, hb1⟩
  have HB1 := Lib.hid hb1
  clear h hb1
  go_wp2_with fail
  refine (num_new w.heap.size a1 l1 c1 0 [3, 2, 3, 2, 3, 2, 5, 4] 8 rfl _ w1 hR1 (by omega) (by simp) (by simp) ?_).mono ?_
  · intro j hj
    have : j = 0 ∨ j = 1 ∨ j = 2 ∨ j = 3 ∨ j = 4 ∨ j = 5 ∨ j = 6 ∨ j = 7 := by simp at hj; omega
    rcases this with rfl | rfl | rfl | rfl | rfl | rfl | rfl | rfl
    all_goals rfl
  rintro e w2 ⟨p, rfl, hy, hR2, hg2⟩
  have hp9 : p = 2 ∨ p = 3 ∨ p = 4 ∨ p = 5 := by simp at hy; omega
  have hgA := grown_trans (grown_alloc w1 (.cells #[.int .i64 3, .int .i64 2, .int .i64 3, .int .i64 2, .int .i64 3, .int .i64 2, .int .i64 5, .int .i64 4] 3) (some w.heap.size)) hg2
  have HS2 := Lib.hid (show QSi w1 w.heap.size a1 l1 c1 1 (.slice (some ⟨w2.heap.size, 0, none⟩) 0 0) [] (w2.alloc (.cells #[] 3)) from
    ⟨hR2.alloc _, RowN.empty w2 hgA.size, hR1.sz, rd_la hR1, grown_trans hgA (grown_alloc _ _ _)⟩)
  clear hR1 hR2 hg2 hgA hy
  obtain ⟨m, hm⟩ : ∃ m : Int, m = min p 3 := ⟨_, rfl⟩
  have hm23 : m = 2 ∨ m = 3 := by omega
  have hmi : (if p ≤ 3 then p else 3) = m := by split <;> omega
  have hmi2 : min p 3 = m := hm.symm
  have hmp : isP m = true := by rcases hm23 with rfl | rfl <;> rfl
  obtain ⟨C, hC⟩ : ∃ C : Nat, C = (m * m * m).toNat := ⟨_, rfl⟩
  have hC2 : m * m * m = (C : Int) ∧ C ≤ 27 := by rcases hm23 with rfl | rfl <;> omega
  have HPS := Lib.hid (fun w => (by have := sPoints m hmp w; rw [hC2.1] at this; exact this : Calls Try.prog 70 #[.int .i64 m] w fun e w' => e = .returned (.int .i64 (C : Int)) ∧ w = w'))
  have hC27 : C ≤ 27 := hC2.2
  clear hm hC hC2 hm23 hmp hp9
  go_wp2_with fail
  refine (HPS.out _).mono ?_
  rintro e w3 ⟨rfl, rfl⟩
  go_wp2_with fail
  go_loopw [6, 16] (fun v i wr => ∃ (k : Nat) (M : List Int), k ≤ C ∧ i = .int .i64 k ∧ M.length = k ∧ QSi w1 w.heap.size a1 l1 c1 (1 + k) v M wr) (fun _ i _ => C - (intOf i).toNat)
  case atStart => exact ⟨0, [], by omega, rfl, rfl, HS2.out⟩
  case round =>
    obtain ⟨k, M, hk, rfl, hMk, hS⟩ := hrel
    have HS := Lib.hid hS
    clear hS
    by_cases hlt : k < C
    · have hltp : (k : Int) < (C : Int) := by omega
      have hk0 : (0 : Int) ≤ (k : Int) := by omega
      go_wp2_with fail
      refine (pick_any w.heap.size a1 l1 c1 (1 + k) m wr HS.out.rd (by omega)).mono ?_
      rintro e w4 ⟨x, rfl, x0, x1, hR4, hg4, hsz⟩
      have HS4 := Lib.hid (HS.out.pk hR4 hg4)
      clear x0 x1 hR4 hg4 hsz HS
      obtain ⟨v', w', hr, hS'⟩ := HS4.out.app x (by omega) 24
      have HQ := Lib.hid hS'
      clear hS' HS4
      go_wp2_with (at_builtin; refine Lib.wpList_append_run _ rfl _ _ 24 24 rfl _ _ rfl rfl _ _ hr ?_)
      go_roundw
      case rel => exact ⟨k + 1, _, by omega, by go_num, by simp; omega, HQ.out⟩
      case measure => simp [intOf]; omega
    · have hkC : k = C := by omega
      subst hkC
      have hnl : ¬ (k : Int) < (k : Int) := by omega
      go_wp2_with fail
      refine (pick_any w.heap.size a1 l1 c1 (1 + k) 20 wr HS.out.rd (by omega)).mono ?_
      rintro e w4 ⟨x, rfl, x0, x1, hR4, hg4, hsz⟩
      have HS4 := Lib.hid (HS.out.pk hR4 hg4)
      clear x0 x1 hR4 hg4 hsz HS
      obtain ⟨xb, hxb⟩ : ∃ xb, xb = (x == 0) := ⟨_, rfl⟩
      have hxb2 : (x == 0) = xb := hxb.symm
      clear hxb
      cases xb
      · have HO := Lib.hid (show (RowN w4 w1.heap.size u6 M ∧ Below w.heap.size w w4) from ⟨HS4.out.row, below_readerT HB1.out HS4.out.gr⟩)
        go_wp2_with fail
        refine bodyPost_ret (v := .tuple #[.int .i64 p, u6]) (by simp [results, Try.results40, go_sem]) rfl ⟨p, u6, M, rfl, by omega, (HO.out.1.own (by omega)).ints, HO.out.2⟩
      · go_wp2_with fail
        refine (num_new w.heap.size a1 l1 c1 (1 + k + 1) [0, 3, -1] 3 rfl _ w4 HS4.out.rd (by omega) (by simp) (by simp) ?_).mono ?_
        · intro j hj
          have : j = 0 ∨ j = 1 ∨ j = 2 := by simp at hj; omega
          rcases this with rfl | rfl | rfl
          all_goals rfl
        rintro e w5 ⟨y, rfl, hy, hR5, hg5⟩
        have HS5 := Lib.hid ((HS4.out.on (w' := w4.alloc (.cells #[.int .i64 0, .int .i64 3, .int .i64 (-1)] 3)) (Below.alloc (Below.refl _ _) (Nat.le_refl _) _)).pk hR5 hg5)
        clear hy hR5 hg5 HS4
        obtain ⟨v', w', hr, hS'⟩ := HS5.out.app y (by omega) 24
        have HQ := Lib.hid hS'
        clear hS' HS5
        go_wp2_with (at_builtin; refine Lib.wpList_append_run _ rfl _ _ 24 24 rfl _ _ rfl rfl _ _ hr ?_)
        refine bodyPost_ret (v := .tuple #[.int .i64 p, v']) (by simp [results, Try.results40, go_sem]) rfl ⟨p, v', M ++ [y], rfl, by simp; omega, (HQ.out.row.own (by simp; omega)).ints, below_readerT HB1.out HQ.out.gr⟩
end Go.Proofs.Ytajabchbdhjdiaa
