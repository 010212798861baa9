/-
  Contracts of the model's draws of circuits: each hands back some gates in memory of its own and writes nothing that was there but the reader's count. Conditions: the bytes can be read.
-/
import Derived.Test.YtlidplmpglpkgaaBa18
import Derived.Test.YtlidplmpglpkgaaBe2
import Derived.Test.YtlidplmpglpkgaaBa12
import Derived.Maps.AppendAt
import Derived.Deep.CutRange
import Derived.Deep.Cut
namespace Go.Proofs.Ytlidplmpglpkgaa
open Go.RowKit
theorem Rd.far {w w' : World} {R B : Nat} {a : Option Addr} {len cap p : Nat} (h : Rd w R a len cap p) (hs : w.heap.size ≤ w'.heap.size) (hb : ∀ k, k < B → w'.heap[k]? = w.heap[k]?) (hR : R < B) (ha : len = 0 ∨ ∀ g off, a = some ⟨g, off, none⟩ → g < B) : Rd w' R a len cap p := by
  have e := hb R hR
  refine ⟨by rw [World.cell?_of_block (a := ⟨R, 0, none⟩) e]; exact h.b0, by rw [World.cell?_of_block (a := ⟨R, 1, none⟩) e]; exact h.p1, by rw [World.frozen?_of_block (a := ⟨R, 1, none⟩) e]; exact h.f1, Nat.lt_of_lt_of_le h.sz hs, h.len_le, ?_⟩
  rcases ha with h0 | ha
  · exact .inl h0
  · rcases h.bytes with h0 | ⟨g, off, rfl, hR, hg, hc⟩
    · exact .inl h0
    · refine .inr ⟨g, off, rfl, hR, Nat.lt_of_lt_of_le hg hs, fun i hi => ?_⟩
      obtain ⟨z, z0, z1, hz⟩ := hc i hi
      exact ⟨z, z0, z1, by rw [World.cell?_of_block (a := ⟨g, off + i, none⟩) (hb g (ha g off rfl))]; exact hz⟩
theorem Rd.la {w : World} {R : Nat} {a : Option Addr} {len cap p : Nat} (h : Rd w R a len cap p) : len = 0 ∨ ∀ g off, a = some ⟨g, off, none⟩ → g < w.heap.size := by
  rcases h.bytes with h0 | ⟨g, off, rfl, hR, hg, hc⟩
  · exact .inl h0
  · refine .inr fun g' off' e => ?_
    injection e with e
    injection e with e1 e2
    omega
theorem grown_of {w w' : World} {R : Nat} (h : Below w.heap.size w w') : w.grownBy w' (some R) := ⟨h.os, h.tape, h.output, h.size, fun k hk _ => h.block k hk⟩
/-- drawing: the reader, a row of gates of its own -/
structure DSt (w0 : World) (R : Nat) (a : Option Addr) (len cap q : Nat) (v : Value) (M : List Gt) (wr : World) : Prop where
  rd : Rd wr R a len cap q
  row : RowGt wr w0.heap.size v M
  RB : R < w0.heap.size
  la : len = 0 ∨ ∀ g off, a = some ⟨g, off, none⟩ → g < w0.heap.size
  gr : w0.grownBy wr (some R)
  nn : v ≠ .slice none 0 0
section
variable {w0 wr : World} {R : Nat} {a : Option Addr} {len cap q : Nat} {v : Value} {M : List Gt}
theorem DSt.size (h : DSt w0 R a len cap q v M wr) : w0.heap.size ≤ wr.heap.size := h.gr.size
theorem DSt.on (h : DSt w0 R a len cap q v M wr) {w' : World} (hb : Below wr.heap.size wr w') : DSt w0 R a len cap q v M w' :=
  ⟨h.rd.far hb.size (fun k hk => hb.block k (Nat.lt_of_lt_of_le hk h.size)) h.RB h.la, h.row.below hb, h.RB, h.la, grown_trans h.gr (grown_of hb), h.nn⟩
theorem DSt.pk (h : DSt w0 R a len cap q v M wr) {w' : World} {q' : Nat} (hr : Rd w' R a len cap q') (hg : wr.grownBy w' (some R)) : DSt w0 R a len cap q' v M w' :=
  ⟨hr, World.ownsRow.kept (row := some R) h.row hg (.inr (h.row.block h.RB)), h.RB, h.la, grown_trans h.gr hg, h.nn⟩
theorem DSt.sn (h : DSt w0 R a len cap q v M wr) (X o : Nat) (u : Value) (hv : v.ownBlock ≠ some X) (hX : w0.heap.size ≤ X) : DSt w0 R a len cap q v M (wr.setCell ⟨X, o, none⟩ u) := by
  have hk : ∀ k, k < w0.heap.size → (wr.setCell ⟨X, o, none⟩ u).heap[k]? = wr.heap[k]? := fun k hk => Below.heap_setCell _ _ _ _ (show k ≠ X by omega)
  refine ⟨h.rd.far (by simp) hk h.RB h.la, World.ownsRow.kept (row := some X) h.row ⟨rfl, rfl, rfl, by simp, fun k hk hne => Below.heap_setCell _ _ _ _ (fun e => hne (by rw [e]))⟩ (.inr hv), h.RB, h.la, ⟨h.gr.os, h.gr.tape, h.gr.output, by simpa using h.gr.size, fun k hk' hne => ?_⟩, h.nn⟩
  rw [hk k hk']; exact h.gr.block k hk' hne
theorem DSt.app (h : DSt w0 R a len cap q v M wr) {w' : World} {v' : Value} {M' : List Gt} (hr : RowGt w' w0.heap.size v' M') (hg : wr.grownBy w' v.ownBlock) (hv : v' ≠ .slice none 0 0) : DSt w0 R a len cap q v' M' w' := by
  have hb := h.row.low h.size hg
  exact ⟨h.rd.far hb.size (fun k hk => hb.block k hk) h.RB h.la, hr, h.RB, h.la, ⟨hb.os.trans h.gr.os, hb.tape.trans h.gr.tape, hb.output.trans h.gr.output, Nat.le_trans h.gr.size hb.size, fun k hk hne => (hb.block k hk).trans (h.gr.block k hk hne)⟩, hv⟩
theorem DSt.new (h : DSt w0 R a len cap q v M wr) {X : Nat} (hX : wr.heap.size ≤ X) : v.ownBlock ≠ some X := fun e => by
  have := (World.ownsRow.lt h.row X e).2
  omega
end
theorem DSt.sl {w0 wr : World} {R : Nat} {a : Option Addr} {len cap q : Nat} {v : Value} {M : List Gt} (h : DSt w0 R a len cap q v M wr) : ∃ g c, v = .slice (some ⟨g, 0, none⟩) M.length c := by
  rcases h.row.shape with ⟨hv, _⟩ | ⟨g, c, rfl, _⟩
  · exact absurd hv h.nn
  · exact ⟨g, c, rfl⟩
/-- a draw of gates hands back some of them -/
def Draws (R : Nat) (a : Option Addr) (len cap q c n : Nat) (w : World) (e : Ending) (w' : World) : Prop :=
  ∃ v M q', e = .returned v ∧ M.length ≤ n ∧ q' ≤ q + c ∧ DSt w R a len cap q' v M w'
set_option maxHeartbeats 1000000 in
theorem field_any (p : Int) (w : World) : Calls Try.prog 162 #[.int .i64 p] w fun e w' => ∃ q : Int, e = .returned (.int .i64 q) ∧ 2 ≤ q ∧ q ≤ 13 ∧ Below w.heap.size w w' := by
  cases hp : isP p
  · have HP := Lib.hid hp
    clear hp
    go_enter Try.func162, Try.ntmps162
    go_wp2_with fail
    refine (sPV_no p _ HP.out).mono ?_
    rintro e w1 ⟨rfl, rfl⟩
    go_wp2
    go_ret
    exact ⟨5, rfl, by omega, by omega, Below.refl _ _⟩
  · have hb := isP_bd hp
    have HP := Lib.hid hp
    clear hp
    go_enter Try.func162, Try.ntmps162
    go_wp2_with fail
    refine (sPV_yes p _ HP.out).mono ?_
    rintro e w1 ⟨rfl, rfl⟩
    go_wp2
    go_ret
    exact ⟨p, rfl, hb.1, hb.2, Below.refl _ _⟩
set_option maxRecDepth 100000 in
set_option maxHeartbeats 8000000 in
theorem gates_any (R : Nat) (a : Option Addr) (len cap q : Nat) (p : Int) (n : Nat) (hp0 : 2 ≤ p) (hp1 : p ≤ 13) (hn : n ≤ 60) (w : World) (h : Rd w R a len cap q) (hq : q ≤ 900000) :
    Calls Try.prog 202 #[.pointer (some ⟨R, 0, none⟩), .int .i64 p, .int .i64 n] w (Draws R a len cap q 600 60 w) := by
  obtain ⟨i0, hi, hz0, hz1, hz2⟩ := info_parts infoG
  have hRB := h.sz
  have S0 : DSt w R a len cap q (.slice (some ⟨w.heap.size, 0, none⟩) 0 0) [] (w.alloc (.cells #[] 137)) :=
    ⟨h.alloc _, RowGt.lit0 w w.heap.size (Nat.le_refl _), h.sz, h.la, grown_alloc _ _ _, by simp⟩
  have HS0 := Lib.hid S0
  clear S0 h
  go_enter Try.func202, Try.ntmps202
  go_wp2_with fail
  go_loopw [7, 13] (fun v i wr => ∃ k q' : Nat, ∃ M : List Gt, k ≤ n ∧ i = .int .i64 k ∧ M.length = k ∧ q' ≤ q + 10 * k ∧ DSt w R a len cap q' v M wr) (fun _ i _ => n - (intOf i).toNat)
  case atStart => exact ⟨0, q, [], by omega, rfl, rfl, by omega, HS0.out⟩
  case round =>
    clear HS0
    rename_i K' hK'
    have HK' := Lib.hid hK'
    clear hK'
    obtain ⟨k, q', M, hk, rfl, hM, hq', hS⟩ := hrel
    by_cases hlt : k < n
    · have hltp : (k : Int) < (n : Int) := by omega
      have hk0 : (0 : Int) ≤ (k : Int) := by omega
      obtain ⟨a7, c7, rfl⟩ := hS.sl
      subst hM
      have HS := Lib.hid hS
      clear hS
      go_wp2_with fail
      refine (pick_any R a len cap q' 4 wr HS.out.rd (by omega)).mono ?_
      rintro e w1 ⟨x, rfl, x0, x1, hR1, hg1, hs1⟩
      have hx3 : x ≤ 3 := by omega
      have S1 := HS.out.pk hR1 hg1
      have HS1 := Lib.hid S1
      clear x1 hR1 hg1 hs1 S1
      go_upto_if 19 with fail
      go_cut [9] from 15 to 58 (fun s w' => ∃ kd : Int, ∃ q2 : Nat, s = .int .i64 kd ∧ 0 ≤ kd ∧ kd ≤ 3 ∧ (M.length < 2 → kd ≤ 1) ∧ q2 ≤ q' + 4 ∧ DSt w R a len cap q2 (.slice (some ⟨a7, 0, none⟩) M.length c7) M w')
      case first =>
        as_aux_lemma =>
          by_cases h2 : M.length < 2
          · have h2p : (M.length : Int) < 2 := by omega
            go_wp2_with fail
            refine (num_new R a len cap (q' + 1) [0, 0, 0, 1] 4 rfl _ w1 HS1.out.rd (by omega) (by simp) (by simp) ?_).mono ?_
            · intro j hj
              have : j = 0 ∨ j = 1 ∨ j = 2 ∨ j = 3 := by simp at hj; omega
              rcases this with rfl | rfl | rfl | rfl
              all_goals rfl
            rintro e w2 ⟨y, rfl, hy, hR2, hg2⟩
            have y01 : y = 0 ∨ y = 1 := by simp at hy; omega
            have S2 := (HS1.out.on (w' := w1.alloc (.cells #[.int .i64 0, .int .i64 0, .int .i64 0, .int .i64 1] 3)) (Below.alloc (Below.refl _ _) (Nat.le_refl _) _)).pk hR2 hg2
            clear hy hR2 hg2
            go_wp2
            go_meet
            case rel => exact ⟨y, q' + 1 + 1, rfl, by omega, by omega, fun _ => by omega, by omega, S2⟩
          · have h2p : (2 : Int) ≤ (M.length : Int) := by omega
            go_wp2_with fail
            refine (pick_any R a len cap (q' + 1) 2 w1 HS1.out.rd (by omega)).mono ?_
            rintro e w2 ⟨y, rfl, y0, y1, hR2, hg2, hs2⟩
            have S2 := HS1.out.pk hR2 hg2
            have HS2 := Lib.hid S2
            clear hR2 hg2 hs2 S2 y1
            cases hy : (y == 0)
            · go_wp2
              go_meet
              case rel => exact ⟨x, q' + 1 + 1, rfl, by omega, by omega, fun h => absurd h h2, by omega, HS2.out⟩
            · go_wp2_with fail
              refine (pick_any R a len cap (q' + 1 + 1) 2 w2 HS2.out.rd (by omega)).mono ?_
              rintro e w3 ⟨z, rfl, z0, z1, hR3, hg3, hs3⟩
              have z2 : z ≤ 1 := by omega
              have S3 := HS2.out.pk hR3 hg3
              have hw : IntKind.i64.wrap (2 + z) = 2 + z := IntWalk.i64_in _ (by omega)
              clear hR3 hg3 hs3 z1
              go_wp2
              go_meet
              case rel => exact ⟨2 + z, q' + 1 + 1 + 1, rfl, by omega, by omega, fun h => absurd h h2, by omega, S3⟩
      case rest =>
        as_aux_lemma =>
          obtain ⟨kd, q2, rfl, kd0, kd3, hkd, hq2, hS2⟩ := hcut
          have HS2 := Lib.hid hS2
          have HN := Lib.hid (show (Value.slice (some ⟨a7, 0, none⟩) M.length c7).ownBlock ≠ some wc.heap.size from hS2.new (Nat.le_refl _))
          have hsc : w.heap.size ≤ wc.heap.size := hS2.size
          have HS3 := Lib.hid (hS2.on (w' := wc.alloc (.cells #[.int .i64 kd, .int .i64 0, .int .i64 0] 137)) (Below.alloc (Below.refl _ _) (Nat.le_refl _) _))
          clear hS2
          have hcs : kd = 0 ∨ kd = 1 ∨ kd = 2 ∨ kd = 3 := by omega
          rcases hcs with rfl | rfl | rfl | rfl
          · go_wp2_with fail
            refine (pick_any R a len cap q2 3 _ HS3.out.rd (by omega)).mono ?_
            rintro e w4 ⟨y, rfl, y0, y1, hR4, hg4, hs4⟩
            have y2 : y ≤ 100 := by omega
            have S4 := HS3.out.pk hR4 hg4
            have hb4 := hg4.block wc.heap.size (by simp) (fun e => by injection e with e; omega)
            have c0 := World.cell?_of_block (a := ⟨wc.heap.size, 0, none⟩) hb4
            have c1 := World.cell?_of_block (a := ⟨wc.heap.size, 1, none⟩) hb4
            have c2 := World.cell?_of_block (a := ⟨wc.heap.size, 2, none⟩) hb4
            have z1 := World.frozen?_of_block (a := ⟨wc.heap.size, 1, none⟩) hb4
            simp [go_sem] at c0 c1 c2 z1
            have hs5 : w.heap.size ≤ w4.heap.size := S4.size
            have HS6 := Lib.hid ((S4.sn wc.heap.size 1 (.int .i64 y) HN.out (by omega)).on (w' := (w4.setCell ⟨wc.heap.size, 1, none⟩ (.int .i64 y)).alloc (.cells #[.int .i64 0, .int .i64 y, .int .i64 0] 137)) (Below.alloc (Below.refl _ _) (Nat.le_refl _) _))
            clear y1 hR4 hg4 hb4 hs4 S4
            go_wp2_with (at_builtin; refine wpList_append_own_at _ rfl _ _ 43 rfl (w.heap.size) 137 i0 (.agg #[.int .i64 0, .int .i64 0, .int .i64 0]) 3 24 Try.underlying43 hi hz0 hz1 hz2 rfl (by decide) _ _ _ rfl HS6.out.row _ 1 1 [.int .i64 (0), .int .i64 (y), .int .i64 (0)] rfl rfl (by intro j u hj; match j, hj with | 0, hj => (simp at hj; subst hj; simp [Addr.add, go_sem]) | 1, hj => (simp at hj; subst hj; simp [Addr.add, go_sem]) | 2, hj => (simp at hj; subst hj; simp [Addr.add, go_sem])) (gate_ok _ _ _) (by unfold maxLen; omega) (by first | omega | (simp; omega)) (by first | omega | (simp; omega)) ?_)
            intro v' w5 hown' hgrow hnil _
            have S7 := HS6.out.app (RowGt.snoc ⟨0, y, 0⟩ hown') hgrow (fun e => hnil e)
            clear hown' hgrow hnil
            go_wp2_with fail
            go_roundw
            case rel => exact ⟨M.length + 1, q2 + 1, _, by omega, by go_num, by simp, by omega, S7⟩
            case measure => simp [intOf]; omega
          · go_wp2_with fail
            refine (pick_any R a len cap q2 p _ HS3.out.rd (by omega)).mono ?_
            rintro e w4 ⟨y, rfl, y0, y1, hR4, hg4, hs4⟩
            have y2 : y ≤ 100 := by omega
            have S4 := HS3.out.pk hR4 hg4
            have hb4 := hg4.block wc.heap.size (by simp) (fun e => by injection e with e; omega)
            have c0 := World.cell?_of_block (a := ⟨wc.heap.size, 0, none⟩) hb4
            have c1 := World.cell?_of_block (a := ⟨wc.heap.size, 1, none⟩) hb4
            have c2 := World.cell?_of_block (a := ⟨wc.heap.size, 2, none⟩) hb4
            have z1 := World.frozen?_of_block (a := ⟨wc.heap.size, 1, none⟩) hb4
            simp [go_sem] at c0 c1 c2 z1
            have hs5 : w.heap.size ≤ w4.heap.size := S4.size
            have HS6 := Lib.hid ((S4.sn wc.heap.size 1 (.int .i64 y) HN.out (by omega)).on (w' := (w4.setCell ⟨wc.heap.size, 1, none⟩ (.int .i64 y)).alloc (.cells #[.int .i64 1, .int .i64 y, .int .i64 0] 137)) (Below.alloc (Below.refl _ _) (Nat.le_refl _) _))
            clear y1 hR4 hg4 hb4 hs4 S4
            go_wp2_with (at_builtin; refine wpList_append_own_at _ rfl _ _ 43 rfl (w.heap.size) 137 i0 (.agg #[.int .i64 0, .int .i64 0, .int .i64 0]) 3 24 Try.underlying43 hi hz0 hz1 hz2 rfl (by decide) _ _ _ rfl HS6.out.row _ 1 1 [.int .i64 (1), .int .i64 (y), .int .i64 (0)] rfl rfl (by intro j u hj; match j, hj with | 0, hj => (simp at hj; subst hj; simp [Addr.add, go_sem]) | 1, hj => (simp at hj; subst hj; simp [Addr.add, go_sem]) | 2, hj => (simp at hj; subst hj; simp [Addr.add, go_sem])) (gate_ok _ _ _) (by unfold maxLen; omega) (by first | omega | (simp; omega)) (by first | omega | (simp; omega)) ?_)
            intro v' w5 hown' hgrow hnil _
            have S7 := HS6.out.app (RowGt.snoc ⟨1, y, 0⟩ hown') hgrow (fun e => hnil e)
            clear hown' hgrow hnil
            go_wp2_with fail
            go_roundw
            case rel => exact ⟨M.length + 1, q2 + 1, _, by omega, by go_num, by simp, by omega, S7⟩
            case measure => simp [intOf]; omega
          · have hk2 : 2 ≤ M.length := by omega
            have hk2p : (2 : Int) ≤ (M.length : Int) := by omega
            have w1' : IntKind.i64.wrap ((M.length : Int) - 1) = (M.length : Int) - 1 := IntWalk.i64_in _ (by omega)
            by_cases hk3 : M.length ≤ 3
            · have hk3q : (M.length : Int) ≤ 3 := by omega
              go_wp2_with fail
              refine (pick_any R a len cap q2 _ _ HS3.out.rd (by omega)).mono ?_
              rintro e w4 ⟨y, rfl, y0, y1, hR4, hg4, hs4⟩
              have y2 : y ≤ (M.length : Int) - 1 := by omega
              have S4 := HS3.out.pk hR4 hg4
              have hb4 := hg4.block wc.heap.size (by simp) (fun e => by injection e with e; omega)
              have c0 := World.cell?_of_block (a := ⟨wc.heap.size, 0, none⟩) hb4
              have c1 := World.cell?_of_block (a := ⟨wc.heap.size, 1, none⟩) hb4
              have c2 := World.cell?_of_block (a := ⟨wc.heap.size, 2, none⟩) hb4
              have z1 := World.frozen?_of_block (a := ⟨wc.heap.size, 1, none⟩) hb4
              have z2 := World.frozen?_of_block (a := ⟨wc.heap.size, 2, none⟩) hb4
              simp [go_sem] at c0 c1 c2 z1 z2
              have hs4' : wc.heap.size < w4.heap.size := by rw [hs4]; simp
              have w2' : IntKind.i64.wrap ((M.length : Int) - 1 - y) = (M.length : Int) - 1 - y := IntWalk.i64_in _ (by omega)
              have HS5 := Lib.hid (S4.sn wc.heap.size 1 (.int .i64 ((M.length : Int) - 1 - y)) HN.out (by omega))
              clear y1 hR4 hg4 hb4 hs4 S4
              go_wp2_with fail
              refine (pick_any R a len cap (q2 + 1) _ _ HS5.out.rd (by omega)).mono ?_
              rintro e w5 ⟨z, rfl, z0, z3, hR5, hg5, hs5⟩
              have S5 := HS5.out.pk hR5 hg5
              have hb5 := hg5.block wc.heap.size (by simpa using hs4') (fun e => by injection e with e; omega)
              have d0 := World.cell?_of_block (a := ⟨wc.heap.size, 0, none⟩) hb5
              have d1 := World.cell?_of_block (a := ⟨wc.heap.size, 1, none⟩) hb5
              have d2 := World.cell?_of_block (a := ⟨wc.heap.size, 2, none⟩) hb5
              have z2' := World.frozen?_of_block (a := ⟨wc.heap.size, 2, none⟩) hb5
              simp [go_sem, *] at d0 d1 d2 z2'
              have hs6 : w.heap.size ≤ w5.heap.size := S5.size
              have HS6 := Lib.hid ((S5.sn wc.heap.size 2 (.int .i64 z) HN.out (by omega)).on (w' := (w5.setCell ⟨wc.heap.size, 2, none⟩ (.int .i64 z)).alloc (.cells #[.int .i64 2, .int .i64 ((M.length : Int) - 1 - y), .int .i64 z] 137)) (Below.alloc (Below.refl _ _) (Nat.le_refl _) _))
              clear z3 hR5 hg5 hb5 hs5 S5 c0 c1 c2 z1 z2
              go_wp2_with (at_builtin; refine wpList_append_own_at _ rfl _ _ 43 rfl (w.heap.size) 137 i0 (.agg #[.int .i64 0, .int .i64 0, .int .i64 0]) 3 24 Try.underlying43 hi hz0 hz1 hz2 rfl (by decide) _ _ _ rfl HS6.out.row _ 1 1 [.int .i64 (2), .int .i64 ((M.length : Int) - 1 - y), .int .i64 (z)] rfl rfl (by intro j u hj; match j, hj with | 0, hj => (simp at hj; subst hj; simp [Addr.add, go_sem]) | 1, hj => (simp at hj; subst hj; simp [Addr.add, go_sem]) | 2, hj => (simp at hj; subst hj; simp [Addr.add, go_sem])) (gate_ok _ _ _) (by unfold maxLen; omega) (by first | omega | (simp; omega)) (by first | omega | (simp; omega)) ?_)
              intro v' w6 hown' hgrow hnil _
              have S7 := HS6.out.app (RowGt.snoc ⟨2, (M.length : Int) - 1 - y, z⟩ hown') hgrow (fun e => hnil e)
              clear hown' hgrow hnil
              go_wp2_with fail
              go_roundw
              case rel => exact ⟨M.length + 1, q2 + 2, _, by omega, by go_num, by simp, by omega, S7⟩
              case measure => simp [intOf]; omega
            · have hk3p : (3 : Int) < (M.length : Int) := by omega
              go_wp2_with fail
              refine (pick_any R a len cap q2 _ _ HS3.out.rd (by omega)).mono ?_
              rintro e w4 ⟨y, rfl, y0, y1, hR4, hg4, hs4⟩
              have y2 : y ≤ (M.length : Int) - 1 := by omega
              have S4 := HS3.out.pk hR4 hg4
              have hb4 := hg4.block wc.heap.size (by simp) (fun e => by injection e with e; omega)
              have c0 := World.cell?_of_block (a := ⟨wc.heap.size, 0, none⟩) hb4
              have c1 := World.cell?_of_block (a := ⟨wc.heap.size, 1, none⟩) hb4
              have c2 := World.cell?_of_block (a := ⟨wc.heap.size, 2, none⟩) hb4
              have z1 := World.frozen?_of_block (a := ⟨wc.heap.size, 1, none⟩) hb4
              have z2 := World.frozen?_of_block (a := ⟨wc.heap.size, 2, none⟩) hb4
              simp [go_sem] at c0 c1 c2 z1 z2
              have hs4' : wc.heap.size < w4.heap.size := by rw [hs4]; simp
              have w2' : IntKind.i64.wrap ((M.length : Int) - 1 - y) = (M.length : Int) - 1 - y := IntWalk.i64_in _ (by omega)
              have HS5 := Lib.hid (S4.sn wc.heap.size 1 (.int .i64 ((M.length : Int) - 1 - y)) HN.out (by omega))
              clear y1 hR4 hg4 hb4 hs4 S4
              go_wp2_with fail
              refine (pick_any R a len cap (q2 + 1) _ _ HS5.out.rd (by omega)).mono ?_
              rintro e w5 ⟨z, rfl, z0, z3, hR5, hg5, hs5⟩
              have S5 := HS5.out.pk hR5 hg5
              have hb5 := hg5.block wc.heap.size (by simpa using hs4') (fun e => by injection e with e; omega)
              have d0 := World.cell?_of_block (a := ⟨wc.heap.size, 0, none⟩) hb5
              have d1 := World.cell?_of_block (a := ⟨wc.heap.size, 1, none⟩) hb5
              have d2 := World.cell?_of_block (a := ⟨wc.heap.size, 2, none⟩) hb5
              have z2' := World.frozen?_of_block (a := ⟨wc.heap.size, 2, none⟩) hb5
              simp [go_sem, *] at d0 d1 d2 z2'
              have hs6 : w.heap.size ≤ w5.heap.size := S5.size
              have HS6 := Lib.hid ((S5.sn wc.heap.size 2 (.int .i64 z) HN.out (by omega)).on (w' := (w5.setCell ⟨wc.heap.size, 2, none⟩ (.int .i64 z)).alloc (.cells #[.int .i64 2, .int .i64 ((M.length : Int) - 1 - y), .int .i64 z] 137)) (Below.alloc (Below.refl _ _) (Nat.le_refl _) _))
              clear z3 hR5 hg5 hb5 hs5 S5 c0 c1 c2 z1 z2
              go_wp2_with (at_builtin; refine wpList_append_own_at _ rfl _ _ 43 rfl (w.heap.size) 137 i0 (.agg #[.int .i64 0, .int .i64 0, .int .i64 0]) 3 24 Try.underlying43 hi hz0 hz1 hz2 rfl (by decide) _ _ _ rfl HS6.out.row _ 1 1 [.int .i64 (2), .int .i64 ((M.length : Int) - 1 - y), .int .i64 (z)] rfl rfl (by intro j u hj; match j, hj with | 0, hj => (simp at hj; subst hj; simp [Addr.add, go_sem]) | 1, hj => (simp at hj; subst hj; simp [Addr.add, go_sem]) | 2, hj => (simp at hj; subst hj; simp [Addr.add, go_sem])) (gate_ok _ _ _) (by unfold maxLen; omega) (by first | omega | (simp; omega)) (by first | omega | (simp; omega)) ?_)
              intro v' w6 hown' hgrow hnil _
              have S7 := HS6.out.app (RowGt.snoc ⟨2, (M.length : Int) - 1 - y, z⟩ hown') hgrow (fun e => hnil e)
              clear hown' hgrow hnil
              go_wp2_with fail
              go_roundw
              case rel => exact ⟨M.length + 1, q2 + 2, _, by omega, by go_num, by simp, by omega, S7⟩
              case measure => simp [intOf]; omega
          · have hk2 : 2 ≤ M.length := by omega
            have hk2p : (2 : Int) ≤ (M.length : Int) := by omega
            have w1' : IntKind.i64.wrap ((M.length : Int) - 1) = (M.length : Int) - 1 := IntWalk.i64_in _ (by omega)
            by_cases hk3 : M.length ≤ 3
            · have hk3q : (M.length : Int) ≤ 3 := by omega
              go_wp2_with fail
              refine (pick_any R a len cap q2 _ _ HS3.out.rd (by omega)).mono ?_
              rintro e w4 ⟨y, rfl, y0, y1, hR4, hg4, hs4⟩
              have y2 : y ≤ (M.length : Int) - 1 := by omega
              have S4 := HS3.out.pk hR4 hg4
              have hb4 := hg4.block wc.heap.size (by simp) (fun e => by injection e with e; omega)
              have c0 := World.cell?_of_block (a := ⟨wc.heap.size, 0, none⟩) hb4
              have c1 := World.cell?_of_block (a := ⟨wc.heap.size, 1, none⟩) hb4
              have c2 := World.cell?_of_block (a := ⟨wc.heap.size, 2, none⟩) hb4
              have z1 := World.frozen?_of_block (a := ⟨wc.heap.size, 1, none⟩) hb4
              have z2 := World.frozen?_of_block (a := ⟨wc.heap.size, 2, none⟩) hb4
              simp [go_sem] at c0 c1 c2 z1 z2
              have hs4' : wc.heap.size < w4.heap.size := by rw [hs4]; simp
              have w2' : IntKind.i64.wrap ((M.length : Int) - 1 - y) = (M.length : Int) - 1 - y := IntWalk.i64_in _ (by omega)
              have HS5 := Lib.hid (S4.sn wc.heap.size 1 (.int .i64 ((M.length : Int) - 1 - y)) HN.out (by omega))
              clear y1 hR4 hg4 hb4 hs4 S4
              go_wp2_with fail
              refine (pick_any R a len cap (q2 + 1) _ _ HS5.out.rd (by omega)).mono ?_
              rintro e w5 ⟨z, rfl, z0, z3, hR5, hg5, hs5⟩
              have S5 := HS5.out.pk hR5 hg5
              have hb5 := hg5.block wc.heap.size (by simpa using hs4') (fun e => by injection e with e; omega)
              have d0 := World.cell?_of_block (a := ⟨wc.heap.size, 0, none⟩) hb5
              have d1 := World.cell?_of_block (a := ⟨wc.heap.size, 1, none⟩) hb5
              have d2 := World.cell?_of_block (a := ⟨wc.heap.size, 2, none⟩) hb5
              have z2' := World.frozen?_of_block (a := ⟨wc.heap.size, 2, none⟩) hb5
              simp [go_sem, *] at d0 d1 d2 z2'
              have hs6 : w.heap.size ≤ w5.heap.size := S5.size
              have HS6 := Lib.hid ((S5.sn wc.heap.size 2 (.int .i64 z) HN.out (by omega)).on (w' := (w5.setCell ⟨wc.heap.size, 2, none⟩ (.int .i64 z)).alloc (.cells #[.int .i64 3, .int .i64 ((M.length : Int) - 1 - y), .int .i64 z] 137)) (Below.alloc (Below.refl _ _) (Nat.le_refl _) _))
              clear z3 hR5 hg5 hb5 hs5 S5 c0 c1 c2 z1 z2
              go_wp2_with (at_builtin; refine wpList_append_own_at _ rfl _ _ 43 rfl (w.heap.size) 137 i0 (.agg #[.int .i64 0, .int .i64 0, .int .i64 0]) 3 24 Try.underlying43 hi hz0 hz1 hz2 rfl (by decide) _ _ _ rfl HS6.out.row _ 1 1 [.int .i64 (3), .int .i64 ((M.length : Int) - 1 - y), .int .i64 (z)] rfl rfl (by intro j u hj; match j, hj with | 0, hj => (simp at hj; subst hj; simp [Addr.add, go_sem]) | 1, hj => (simp at hj; subst hj; simp [Addr.add, go_sem]) | 2, hj => (simp at hj; subst hj; simp [Addr.add, go_sem])) (gate_ok _ _ _) (by unfold maxLen; omega) (by first | omega | (simp; omega)) (by first | omega | (simp; omega)) ?_)
              intro v' w6 hown' hgrow hnil _
              have S7 := HS6.out.app (RowGt.snoc ⟨3, (M.length : Int) - 1 - y, z⟩ hown') hgrow (fun e => hnil e)
              clear hown' hgrow hnil
              go_wp2_with fail
              go_roundw
              case rel => exact ⟨M.length + 1, q2 + 2, _, by omega, by go_num, by simp, by omega, S7⟩
              case measure => simp [intOf]; omega
            · have hk3p : (3 : Int) < (M.length : Int) := by omega
              go_wp2_with fail
              refine (pick_any R a len cap q2 _ _ HS3.out.rd (by omega)).mono ?_
              rintro e w4 ⟨y, rfl, y0, y1, hR4, hg4, hs4⟩
              have y2 : y ≤ (M.length : Int) - 1 := by omega
              have S4 := HS3.out.pk hR4 hg4
              have hb4 := hg4.block wc.heap.size (by simp) (fun e => by injection e with e; omega)
              have c0 := World.cell?_of_block (a := ⟨wc.heap.size, 0, none⟩) hb4
              have c1 := World.cell?_of_block (a := ⟨wc.heap.size, 1, none⟩) hb4
              have c2 := World.cell?_of_block (a := ⟨wc.heap.size, 2, none⟩) hb4
              have z1 := World.frozen?_of_block (a := ⟨wc.heap.size, 1, none⟩) hb4
              have z2 := World.frozen?_of_block (a := ⟨wc.heap.size, 2, none⟩) hb4
              simp [go_sem] at c0 c1 c2 z1 z2
              have hs4' : wc.heap.size < w4.heap.size := by rw [hs4]; simp
              have w2' : IntKind.i64.wrap ((M.length : Int) - 1 - y) = (M.length : Int) - 1 - y := IntWalk.i64_in _ (by omega)
              have HS5 := Lib.hid (S4.sn wc.heap.size 1 (.int .i64 ((M.length : Int) - 1 - y)) HN.out (by omega))
              clear y1 hR4 hg4 hb4 hs4 S4
              go_wp2_with fail
              refine (pick_any R a len cap (q2 + 1) _ _ HS5.out.rd (by omega)).mono ?_
              rintro e w5 ⟨z, rfl, z0, z3, hR5, hg5, hs5⟩
              have S5 := HS5.out.pk hR5 hg5
              have hb5 := hg5.block wc.heap.size (by simpa using hs4') (fun e => by injection e with e; omega)
              have d0 := World.cell?_of_block (a := ⟨wc.heap.size, 0, none⟩) hb5
              have d1 := World.cell?_of_block (a := ⟨wc.heap.size, 1, none⟩) hb5
              have d2 := World.cell?_of_block (a := ⟨wc.heap.size, 2, none⟩) hb5
              have z2' := World.frozen?_of_block (a := ⟨wc.heap.size, 2, none⟩) hb5
              simp [go_sem, *] at d0 d1 d2 z2'
              have hs6 : w.heap.size ≤ w5.heap.size := S5.size
              have HS6 := Lib.hid ((S5.sn wc.heap.size 2 (.int .i64 z) HN.out (by omega)).on (w' := (w5.setCell ⟨wc.heap.size, 2, none⟩ (.int .i64 z)).alloc (.cells #[.int .i64 3, .int .i64 ((M.length : Int) - 1 - y), .int .i64 z] 137)) (Below.alloc (Below.refl _ _) (Nat.le_refl _) _))
              clear z3 hR5 hg5 hb5 hs5 S5 c0 c1 c2 z1 z2
              go_wp2_with (at_builtin; refine wpList_append_own_at _ rfl _ _ 43 rfl (w.heap.size) 137 i0 (.agg #[.int .i64 0, .int .i64 0, .int .i64 0]) 3 24 Try.underlying43 hi hz0 hz1 hz2 rfl (by decide) _ _ _ rfl HS6.out.row _ 1 1 [.int .i64 (3), .int .i64 ((M.length : Int) - 1 - y), .int .i64 (z)] rfl rfl (by intro j u hj; match j, hj with | 0, hj => (simp at hj; subst hj; simp [Addr.add, go_sem]) | 1, hj => (simp at hj; subst hj; simp [Addr.add, go_sem]) | 2, hj => (simp at hj; subst hj; simp [Addr.add, go_sem])) (gate_ok _ _ _) (by unfold maxLen; omega) (by first | omega | (simp; omega)) (by first | omega | (simp; omega)) ?_)
              intro v' w6 hown' hgrow hnil _
              have S7 := HS6.out.app (RowGt.snoc ⟨3, (M.length : Int) - 1 - y, z⟩ hown') hgrow (fun e => hnil e)
              clear hown' hgrow hnil
              go_wp2_with fail
              go_roundw
              case rel => exact ⟨M.length + 1, q2 + 2, _, by omega, by go_num, by simp, by omega, S7⟩
              case measure => simp [intOf]; omega
    · have hkl : k = n := by omega
      subst hkl
      have HS := Lib.hid hS
      have hK' := HK'.out
      clear hS
      go_wp2_with fail
      go_ret
      exact ⟨_, M, q', rfl, by omega, by omega, HS.out⟩
end Go.Proofs.Ytlidplmpglpkgaa
