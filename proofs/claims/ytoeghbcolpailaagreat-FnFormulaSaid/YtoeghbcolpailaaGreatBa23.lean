/-
  Contracts of the model's draws of circuits: each hands back some gates in memory of its own and writes nothing that was there but the reader's count. Conditions: the bytes can be read.
  Contracts of the model's draws of formulas. Conditions: the bytes can be read; how deep and how many bytes are bounded.
  Contracts of the model's draws of circuits, on: a circuit that is sometimes spoilt, a prime and a circuit, the draws of each function's arguments. Conditions: the bytes can be read.
  Contracts of the model's draws of formulas, on: a text repeated, a prime and a text. Conditions: the bytes can be read.
-/
import Derived.Test.YtoeghbcolpailaaGreatBa22
import Derived.Test.YtoeghbcolpailaaGreatBa11
import Derived.Test.YtoeghbcolpailaaGreatBa15
import Derived.Maps.AppendAt
import Derived.Deep.CutRange
import Derived.Deep.Cut
namespace Go.Proofs.YtoeghbcolpailaaGreat
open Go.RowKit
theorem Rd.far {w w' : World} {R B : Nat} {a : Option Addr} {len cap p : Nat} (h : Rd w R a len cap p) (hs : w.heap.size ≤ w'.heap.size) (hb : ∀ k, k < B → w'.heap[k]? = w.heap[k]?) (hR : R < B) (ha : len = 0 ∨ ∀ g off, a = some ⟨g, off, none⟩ → g < B) : Rd w' R a len cap p := by
  have e := hb R hR
  refine ⟨by rw [World.cell?_of_block (a := ⟨R, 0, none⟩) e]; exact h.b0, by rw [World.cell?_of_block (a := ⟨R, 1, none⟩) e]; exact h.p1, by rw [World.frozen?_of_block (a := ⟨R, 1, none⟩) e]; exact h.f1, Nat.lt_of_lt_of_le h.sz hs, h.len_le, ?_⟩
  rcases ha with h0 | ha
  · exact .inl h0
  · rcases h.bytes with h0 | ⟨g, off, rfl, hR, hg, hc⟩
    · exact .inl h0
    · refine .inr ⟨g, off, rfl, hR, Nat.lt_of_lt_of_le hg hs, fun i hi => ?_⟩
      obtain ⟨z, z0, z1, hz⟩ := hc i hi
      exact ⟨z, z0, z1, by rw [World.cell?_of_block (a := ⟨g, off + i, none⟩) (hb g (ha g off rfl))]; exact hz⟩
theorem Rd.la {w : World} {R : Nat} {a : Option Addr} {len cap p : Nat} (h : Rd w R a len cap p) : len = 0 ∨ ∀ g off, a = some ⟨g, off, none⟩ → g < w.heap.size := by
  rcases h.bytes with h0 | ⟨g, off, rfl, hR, hg, hc⟩
  · exact .inl h0
  · refine .inr fun g' off' e => ?_
    injection e with e
    injection e with e1 e2
    omega
theorem grown_of {w w' : World} {R : Nat} (h : Below w.heap.size w w') : w.grownBy w' (some R) := ⟨h.os, h.tape, h.output, h.size, fun k hk _ => h.block k hk⟩
/-- drawing: the reader, a row of gates of its own -/
structure DSt (w0 : World) (R : Nat) (a : Option Addr) (len cap q : Nat) (v : Value) (M : List Gt) (wr : World) : Prop where
  rd : Rd wr R a len cap q
  row : RowGt wr w0.heap.size v M
  RB : R < w0.heap.size
  la : len = 0 ∨ ∀ g off, a = some ⟨g, off, none⟩ → g < w0.heap.size
  gr : w0.grownBy wr (some R)
  nn : v ≠ .slice none 0 0
section
variable {w0 wr : World} {R : Nat} {a : Option Addr} {len cap q : Nat} {v : Value} {M : List Gt}
theorem DSt.size (h : DSt w0 R a len cap q v M wr) : w0.heap.size ≤ wr.heap.size := h.gr.size
theorem DSt.on (h : DSt w0 R a len cap q v M wr) {w' : World} (hb : Below wr.heap.size wr w') : DSt w0 R a len cap q v M w' :=
  ⟨h.rd.far hb.size (fun k hk => hb.block k (Nat.lt_of_lt_of_le hk h.size)) h.RB h.la, h.row.below hb, h.RB, h.la, grown_trans h.gr (grown_of hb), h.nn⟩
theorem DSt.pk (h : DSt w0 R a len cap q v M wr) {w' : World} {q' : Nat} (hr : Rd w' R a len cap q') (hg : wr.grownBy w' (some R)) : DSt w0 R a len cap q' v M w' :=
  ⟨hr, World.ownsRow.kept (row := some R) h.row hg (.inr (h.row.block h.RB)), h.RB, h.la, grown_trans h.gr hg, h.nn⟩
theorem DSt.sn (h : DSt w0 R a len cap q v M wr) (X o : Nat) (u : Value) (hv : v.ownBlock ≠ some X) (hX : w0.heap.size ≤ X) : DSt w0 R a len cap q v M (wr.setCell ⟨X, o, none⟩ u) := by
  have hk : ∀ k, k < w0.heap.size → (wr.setCell ⟨X, o, none⟩ u).heap[k]? = wr.heap[k]? := fun k hk => Below.heap_setCell _ _ _ _ (show k ≠ X by omega)
  refine ⟨h.rd.far (by simp) hk h.RB h.la, World.ownsRow.kept (row := some X) h.row ⟨rfl, rfl, rfl, by simp, fun k hk hne => Below.heap_setCell _ _ _ _ (fun e => hne (by rw [e]))⟩ (.inr hv), h.RB, h.la, ⟨h.gr.os, h.gr.tape, h.gr.output, by simpa using h.gr.size, fun k hk' hne => ?_⟩, h.nn⟩
  rw [hk k hk']; exact h.gr.block k hk' hne
theorem DSt.app (h : DSt w0 R a len cap q v M wr) {w' : World} {v' : Value} {M' : List Gt} (hr : RowGt w' w0.heap.size v' M') (hg : wr.grownBy w' v.ownBlock) (hv : v' ≠ .slice none 0 0) : DSt w0 R a len cap q v' M' w' := by
  have hb := h.row.low h.size hg
  exact ⟨h.rd.far hb.size (fun k hk => hb.block k hk) h.RB h.la, hr, h.RB, h.la, ⟨hb.os.trans h.gr.os, hb.tape.trans h.gr.tape, hb.output.trans h.gr.output, Nat.le_trans h.gr.size hb.size, fun k hk hne => (hb.block k hk).trans (h.gr.block k hk hne)⟩, hv⟩
theorem DSt.new (h : DSt w0 R a len cap q v M wr) {X : Nat} (hX : wr.heap.size ≤ X) : v.ownBlock ≠ some X := fun e => by
  have := (World.ownsRow.lt h.row X e).2
  omega
end
theorem DSt.sl {w0 wr : World} {R : Nat} {a : Option Addr} {len cap q : Nat} {v : Value} {M : List Gt} (h : DSt w0 R a len cap q v M wr) : ∃ g c, v = .slice (some ⟨g, 0, none⟩) M.length c := by
  rcases h.row.shape with ⟨hv, _⟩ | ⟨g, c, rfl, _⟩
  · exact absurd hv h.nn
  · exact ⟨g, c, rfl⟩
/-- a draw of gates hands back some of them -/
def Draws (R : Nat) (a : Option Addr) (len cap q c n : Nat) (w : World) (e : Ending) (w' : World) : Prop :=
  ∃ v M q', e = .returned v ∧ M.length ≤ n ∧ q' ≤ q + c ∧ DSt w R a len cap q' v M w'
set_option maxHeartbeats 1000000 in
theorem field_any (p : Int) (w : World) : Calls Tryz.prog 32 #[.int .i64 p] w fun e w' => ∃ q : Int, e = .returned (.int .i64 q) ∧ 2 ≤ q ∧ q ≤ 13 ∧ Below w.heap.size w w' := by
  cases hp : isP p
  · have HP := Lib.hid hp
    clear hp
    go_enter Tryz.func32, Tryz.ntmps32
    go_wp2_with fail
    refine (sPV_no p _ HP.out).mono ?_
    rintro e w1 ⟨rfl, rfl⟩
    go_wp2
    go_ret
    exact ⟨5, rfl, by omega, by omega, Below.refl _ _⟩
  · have hb := isP_bd hp
    have HP := Lib.hid hp
    clear hp
    go_enter Tryz.func32, Tryz.ntmps32
    go_wp2_with fail
    refine (sPV_yes p _ HP.out).mono ?_
    rintro e w1 ⟨rfl, rfl⟩
    go_wp2
    go_ret
    exact ⟨p, rfl, hb.1, hb.2, Below.refl _ _⟩
end Go.Proofs.YtoeghbcolpailaaGreat
namespace Go.Proofs.YtoeghbcolpailaaGreat
open Go.RowKit
/-- a draw hands back a text of so many bytes at most -/
def DrawS (R : Nat) (a : Option Addr) (len cap q c m : Nat) (w : World) (e : Ending) (w' : World) : Prop :=
  ∃ (s : ByteArray) (q' : Nat), e = .returned (.string s) ∧ s.size ≤ m ∧ q' ≤ q + c ∧ Rd w' R a len cap q' ∧ w.grownBy w' (some R)
set_option maxHeartbeats 1000000 in
theorem of_new (R : Nat) (a : Option Addr) (len cap p : Nat) (zs : List ByteArray) (n : Nat) (hn : n = zs.length) (c : Array Value) (m : Nat) (hm : ∀ z ∈ zs, z.size ≤ m) (w : World) (h : Rd w R a len cap p) (hp : p ≤ 1000000) (hz : 0 < zs.length) (hz1 : zs.length ≤ 1000)
    (hc : ∀ j : Nat, j < zs.length → c[j]? = some (.string (zs.getD j ⟨#[]⟩))) :
    Calls Tryz.prog 35 #[.pointer (some ⟨R, 0, none⟩), .slice (some ⟨w.heap.size, 0, none⟩) n n] (w.alloc (.cells c 9))
      (DrawS R a len cap p 1 m (w.alloc (.cells c 9))) := by
  subst hn
  have hR0 := h.alloc (.cells c 9)
  have hne : w.heap.size ≠ R := by have := h.sz; omega
  have hcell : ∀ j : Nat, j < zs.length → (w.alloc (.cells c 9)).cell? ⟨w.heap.size, j, none⟩ = some (.string (zs.getD j ⟨#[]⟩)) := fun j hj => by rw [World.cell?_alloc_new]; exact hc j hj
  have hBs : w.heap.size < (w.alloc (.cells c 9)).heap.size := by simp
  generalize w.alloc (.cells c 9) = W at *
  generalize w.heap.size = B at *
  have hC := Lib.hid hcell
  clear hcell hc
  go_enter Tryz.func35, Tryz.ntmps35
  go_wp2_with fail
  refine (pick_any R a len cap p zs.length W hR0 hp).mono ?_
  rintro e w1 ⟨x, rfl, x0, x1, hR1, hg1, hs1⟩
  have hx : x < (zs.length : Int) := by omega
  obtain ⟨j, rfl⟩ := Int.eq_ofNat_of_zero_le x0
  have hj : j < zs.length := by omega
  have hcj : w1.cell? ⟨B, j, none⟩ = some (.string (zs.getD j ⟨#[]⟩)) := by
    rw [World.cell?_of_block (w := W) (hg1.block B hBs (by simpa using hne))]; exact hC.out j hj
  have hmm : zs.getD j ⟨#[]⟩ ∈ zs := by simp [hj]
  generalize zs.getD j ⟨#[]⟩ = y at hcj hmm
  clear x1
  go_wp2
  go_ret
  exact ⟨y, p + 1, rfl, hm y hmm, by omega, hR1, hg1⟩
def cD : Nat → Nat
  | 0 => 4
  | d + 1 => 4 + 2 * cD d
def mD : Nat → Nat
  | 0 => 1
  | d + 1 => 1 + 2 * mD d
theorem cD_mono (d : Nat) : cD d ≤ cD (d + 1) := by show _ ≤ 4 + 2 * cD d; omega
theorem cD_le : ∀ d, 4 ≤ cD d
  | 0 => Nat.le_refl _
  | d + 1 => by show 4 ≤ 4 + 2 * cD d; omega
theorem mD_le : ∀ d, 1 ≤ mD d
  | 0 => Nat.le_refl _
  | d + 1 => by show 1 ≤ 1 + 2 * mD d; omega
set_option maxRecDepth 100000 in
set_option maxHeartbeats 4000000 in
theorem draw4 (R : Nat) (a : Option Addr) (len cap : Nat) (p : Int) (hp0 : 2 ≤ p) (hp1 : p ≤ 13) : ∀ (d : Nat) (q : Nat) (dep : Int) (w : World), d ≤ 4 → -5 ≤ dep → dep ≤ d → Rd w R a len cap q → q + cD d ≤ 900000 →
    Calls Tryz.prog 31 #[.pointer (some ⟨R, 0, none⟩), .int .i64 p, .int .i64 dep] w (DrawS R a len cap q (cD d) (mD d) w) := by
  intro d
  induction d with
  | zero =>
    intro q dep w hd4 hd0 hd1 h hq
    have hmd := mD_le 0
    have hcd := cD_le 0
    have hdep : dep ≤ 0 := by omega
    go_enter Tryz.func31, Tryz.ntmps31
    go_wp2_with fail
    refine (pick_any R a len cap (q) 3 w h (by omega)).mono ?_
    rintro e v1 ⟨x, rfl, x0, x1, hV1, hk1, hs1⟩
    have hgv := hk1
    clear x1 hs1 hk1
    by_cases hx : 0 < x
    · go_wp2_with fail
      refine (of_new R a len cap (q + 1) [⟨#[120]⟩, ⟨#[121]⟩, ⟨#[122]⟩, ⟨#[120]⟩] 4 rfl _ 1 (by decide) v1 hV1 (by omega) (by simp) (by simp) ?_).mono ?_
      · intro j hj
        have : j = 0 ∨ j = 1 ∨ j = 2 ∨ j = 3 := by simp at hj; omega
        rcases this with rfl | rfl | rfl | rfl
        all_goals rfl
      rintro e v2 ⟨s, q2, rfl, hs, hq2, hV2, hk2⟩
      have hg := Lib.hid (grown_trans hgv (grown_trans (grown_alloc v1 _ (some R)) hk2))
      clear hgv hk2 hV1
      go_wp2_with fail
      go_ret
      exact ⟨s, q2, rfl, by omega, by omega, hV2, hg.out⟩
    · go_wp2_with fail
      refine (pick_any R a len cap (q + 1) p v1 hV1 (by omega)).mono ?_
      rintro e v2 ⟨k, rfl, k0, k1, hV2, hk2, hs2⟩
      have hk : k < p := by omega
      have hg := Lib.hid (grown_trans hgv hk2)
      clear k1 hs2 hgv hk2 hV1
      have hw1 : IntKind.i64.wrap (k + 1) = k + 1 := IntWalk.i64_in _ (by omega)
      have hk13 : k + 1 ≤ 13 := by omega
      have hkk : k ≤ k + 1 := by omega
      go_wp2_with fail
      go_ret
      exact ⟨_, q + 1 + 1, rfl, by simp [ByteArray.size_extract]; omega, by omega, hV2, hg.out⟩
  | succ d ih =>
    intro q dep w hd4 hd0 hd1 h hq
    have hmd := mD_le (d + 1)
    have hcd := cD_le (d + 1)
    have ec : cD (d + 1) = 4 + 2 * cD d := rfl
    have em : mD (d + 1) = 1 + 2 * mD d := rfl
    have IH := Lib.hid ih
    clear ih
    by_cases hdep : dep ≤ 0
    · go_enter Tryz.func31, Tryz.ntmps31
      go_wp2_with fail
      refine (pick_any R a len cap (q) 3 w h (by omega)).mono ?_
      rintro e v1 ⟨x, rfl, x0, x1, hV1, hk1, hs1⟩
      have hgv := hk1
      clear x1 hs1 hk1
      by_cases hx : 0 < x
      · go_wp2_with fail
        refine (of_new R a len cap (q + 1) [⟨#[120]⟩, ⟨#[121]⟩, ⟨#[122]⟩, ⟨#[120]⟩] 4 rfl _ 1 (by decide) v1 hV1 (by omega) (by simp) (by simp) ?_).mono ?_
        · intro j hj
          have : j = 0 ∨ j = 1 ∨ j = 2 ∨ j = 3 := by simp at hj; omega
          rcases this with rfl | rfl | rfl | rfl
          all_goals rfl
        rintro e v2 ⟨s, q2, rfl, hs, hq2, hV2, hk2⟩
        have hg := Lib.hid (grown_trans hgv (grown_trans (grown_alloc v1 _ (some R)) hk2))
        clear hgv hk2 hV1
        go_wp2_with fail
        go_ret
        exact ⟨s, q2, rfl, by omega, by omega, hV2, hg.out⟩
      · go_wp2_with fail
        refine (pick_any R a len cap (q + 1) p v1 hV1 (by omega)).mono ?_
        rintro e v2 ⟨k, rfl, k0, k1, hV2, hk2, hs2⟩
        have hk : k < p := by omega
        have hg := Lib.hid (grown_trans hgv hk2)
        clear k1 hs2 hgv hk2 hV1
        have hw1 : IntKind.i64.wrap (k + 1) = k + 1 := IntWalk.i64_in _ (by omega)
        have hk13 : k + 1 ≤ 13 := by omega
        have hkk : k ≤ k + 1 := by omega
        go_wp2_with fail
        go_ret
        exact ⟨_, q + 1 + 1, rfl, by simp [ByteArray.size_extract]; omega, by omega, hV2, hg.out⟩
    · go_enter Tryz.func31, Tryz.ntmps31
      go_wp2_with fail
      refine (pick_any R a len cap q 6 w h (by omega)).mono ?_
      rintro e u1 ⟨y, rfl, y0, y1, hU1, hu1, hus1⟩
      clear y1 hus1
      by_cases hy : y = 0
      · subst hy
        go_wp2_with fail
        refine (pick_any R a len cap (q + 1) 3 u1 hU1 (by omega)).mono ?_
        rintro e v1 ⟨x, rfl, x0, x1, hV1, hk1, hs1⟩
        have hgv := grown_trans hu1 (hk1)
        clear x1 hs1 hk1
        by_cases hx : 0 < x
        · go_wp2_with fail
          refine (of_new R a len cap (q + 1 + 1) [⟨#[120]⟩, ⟨#[121]⟩, ⟨#[122]⟩, ⟨#[120]⟩] 4 rfl _ 1 (by decide) v1 hV1 (by omega) (by simp) (by simp) ?_).mono ?_
          · intro j hj
            have : j = 0 ∨ j = 1 ∨ j = 2 ∨ j = 3 := by simp at hj; omega
            rcases this with rfl | rfl | rfl | rfl
            all_goals rfl
          rintro e v2 ⟨s, q2, rfl, hs, hq2, hV2, hk2⟩
          have hg := Lib.hid (grown_trans hgv (grown_trans (grown_alloc v1 _ (some R)) hk2))
          clear hgv hk2 hV1
          go_wp2_with fail
          go_ret
          exact ⟨s, q2, rfl, by omega, by omega, hV2, hg.out⟩
        · go_wp2_with fail
          refine (pick_any R a len cap (q + 1 + 1) p v1 hV1 (by omega)).mono ?_
          rintro e v2 ⟨k, rfl, k0, k1, hV2, hk2, hs2⟩
          have hk : k < p := by omega
          have hg := Lib.hid (grown_trans hgv hk2)
          clear k1 hs2 hgv hk2 hV1
          have hw1 : IntKind.i64.wrap (k + 1) = k + 1 := IntWalk.i64_in _ (by omega)
          have hk13 : k + 1 ≤ 13 := by omega
          have hkk : k ≤ k + 1 := by omega
          go_wp2_with fail
          go_ret
          exact ⟨_, q + 1 + 1 + 1, rfl, by simp [ByteArray.size_extract]; omega, by omega, hV2, hg.out⟩
      · have wd1 : IntKind.i64.wrap (dep - 1) = dep - 1 := IntWalk.i64_in _ (by omega)
        go_wp2_with fail
        refine (of_new R a len cap (q + 1) [⟨#[43]⟩, ⟨#[42]⟩, ⟨#[43]⟩] 3 rfl _ 1 (by decide) u1 hU1 (by omega) (by simp) (by simp) ?_).mono ?_
        · intro j hj
          have : j = 0 ∨ j = 1 ∨ j = 2 := by simp at hj; omega
          rcases this with rfl | rfl | rfl
          all_goals rfl
        rintro e u2 ⟨sg, q2, rfl, hsg, hq2, hU2, hu2⟩
        have g2 := grown_trans hu1 (grown_trans (grown_alloc u1 _ (some R)) hu2)
        clear hu1 hu2 hU1
        go_wp2_with fail
        refine (IH.out q2 (dep - 1) u2 (by omega) (by omega) (by omega) hU2 (by omega)).mono ?_
        rintro e u3 ⟨sa, q3, rfl, hsa, hq3, hU3, hu3⟩
        have g3 := grown_trans g2 hu3
        clear g2 hu3 hU2
        have hmx : mD d ≤ 31 := by
          have : d = 0 ∨ d = 1 ∨ d = 2 ∨ d = 3 := by omega
          rcases this with rfl | rfl | rfl | rfl <;> decide
        have n1 : ¬ 9223372036854775807 < sg.size + sa.size := by omega
        go_wp2_with fail
        refine (pick_any R a len cap q3 2 u3 hU3 (by omega)).mono ?_
        rintro e u4 ⟨k, rfl, k0, k1, hU4, hu4, hus4⟩
        have hk2 : k < 2 := by omega
        have g4 := grown_trans g3 hu4
        clear k1 hus4 g3 hu4 hU3
        have wd2 : IntKind.i64.wrap (dep - 1 - k) = dep - 1 - k := IntWalk.i64_in _ (by omega)
        go_wp2_with fail
        refine (IH.out (q3 + 1) (dep - 1 - k) u4 (by omega) (by omega) (by omega) hU4 (by omega)).mono ?_
        rintro e u5 ⟨sb, q5, rfl, hsb, hq5, hU5, hu5⟩
        have g5 := Lib.hid (grown_trans g4 hu5)
        clear g4 hu5 hU4
        have n2 : ¬ 9223372036854775807 < sg.size + sa.size + sb.size := by omega
        have hz2 : (sg ++ sa ++ sb).size = sg.size + sa.size + sb.size := by rw [ByteArray.size_append, ByteArray.size_append]
        go_wp2_with fail
        go_ret
        exact ⟨_, q5, rfl, by omega, by omega, hU5, g5.out⟩
end Go.Proofs.YtoeghbcolpailaaGreat
namespace Go.Proofs.YtoeghbcolpailaaGreat
open Go.RowKit
def lenV : Value → Nat
  | .slice _ n _ => n
  | _ => 0
def sizes8 : List Int := [5, 3, 7, 1, 9, 6, 2, 8]
theorem grown_mono {w w1 w2 : World} {R : Nat} (h : w.grownBy w1 (some R)) (k : w1.grownBy w2 (some R)) : w.grownBy w2 (some R) := grown_trans h k
/-- a prime, or a number that is none, and some gates -/
def Both (R : Nat) (a : Option Addr) (len cap q : Nat) (w : World) (e : Ending) (w' : World) : Prop :=
  ∃ (p : Int) (v : Value) (M : List Gt) (q' : Nat), e = .returned (.tuple #[.int .i64 p, v]) ∧ (-9223372036854775808 ≤ p ∧ p ≤ 9223372036854775807) ∧ M.length ≤ 61 ∧ q' ≤ q + 1000 ∧ Rd w' R a len cap q' ∧ RowGt w' w.heap.size v M ∧ v ≠ .slice none 0 0 ∧ w.grownBy w' (some R)
theorem below_reader' {w w1 w2 : World} (h : Below w.heap.size w w1) (hg : w1.grownBy w2 (some w.heap.size)) : Below w.heap.size w w2 :=
  h.grown hg h.size (fun k hk => by cases hk; exact Nat.le_refl _)
def DrawC (w : World) (e : Ending) (w' : World) : Prop :=
  ∃ (p : Int) (v : Value) (L : List Gt), e = .returned (.tuple #[.int .i64 p, v]) ∧ (-9223372036854775808 ≤ p ∧ p ≤ 9223372036854775807) ∧ L.length ≤ 61 ∧ OwnGats w' w.heap.size v L ∧ v ≠ .slice none 0 0 ∧ Below w.heap.size w w'
end Go.Proofs.YtoeghbcolpailaaGreat
namespace Go.Proofs.YtoeghbcolpailaaGreat
open Go.RowKit
theorem many_odd {o s k : Nat} (h : o + s * k ≤ 62) (hk : k % 2 = 1) : (o + s) + (s + s) * (k / 2) ≤ 62 := by
  obtain ⟨m, rfl⟩ : ∃ m, k = 2 * m + 1 := ⟨k / 2, by omega⟩
  rw [show (2 * m + 1) / 2 = m by omega]
  have : s * (2 * m + 1) = s + (s + s) * m := by grind
  omega
theorem many_even {o s k : Nat} (h : o + s * k ≤ 62) (hk : ¬ k % 2 = 1) : o + (s + s) * (k / 2) ≤ 62 := by
  obtain ⟨m, rfl⟩ : ∃ m, k = 2 * m := ⟨k / 2, by omega⟩
  rw [show (2 * m) / 2 = m by omega]
  have : s * (2 * m) = (s + s) * m := by grind
  omega
theorem many_le {o s k : Nat} (h : o + s * k ≤ 62) (hk : 0 < k) : o ≤ 62 ∧ s ≤ 62 := by
  have : s ≤ s * k := Nat.le_mul_of_pos_right s hk
  omega
set_option maxRecDepth 100000 in
set_option maxHeartbeats 4000000 in
theorem many_any (n : Nat) (hn : n ≤ 31) (w : World) : Calls Tryz.prog 36 #[.string ⟨#[43, 120]⟩, .int .i64 n] w fun e w' => ∃ s : ByteArray, e = .returned (.string s) ∧ s.size ≤ 62 ∧ w = w' := by
  have hn31 : (n : Int) ≤ 31 := by omega
  go_enter Tryz.func36, Tryz.ntmps36
  go_wp2_with fail
  go_loopw [0, 1, 5] (fun s i o wr => ∃ (S O : ByteArray) (k : Nat), k ≤ 31 ∧ s = .string S ∧ i = .int .i64 k ∧ o = .string O ∧ O.size + S.size * k ≤ 62 ∧ wr = w) (fun _ i _ _ => (intOf i).toNat)
  case atStart => exact ⟨⟨#[43, 120]⟩, ⟨#[]⟩, n, hn, rfl, rfl, rfl, by show 0 + 2 * n ≤ 62; omega, rfl⟩
  case round =>
    obtain ⟨S, O, k, hk, rfl, rfl, rfl, hs, rfl⟩ := hrel
    have hk31 : (k : Int) ≤ 31 := by omega
    by_cases h0 : 0 < k
    · have h0p : (0 : Int) < (k : Int) := by omega
      obtain ⟨l1, l2⟩ := many_le hs h0
      obtain ⟨m, hm⟩ : ∃ m, m = k / 2 := ⟨_, rfl⟩
      have q1 : (k : Int).tdiv 2 = (m : Int) := by rw [hm, show (2 : Int) = ((2 : Nat) : Int) from rfl, ← Int.ofNat_tdiv]
      have q2 : (k : Int) / 2 = (m : Int) := by rw [hm]; simp
      have q3 : IntKind.i64.wrap (m : Int) = (m : Int) := IntWalk.i64_in _ (by omega)
      have n2 : ¬ 9223372036854775807 < S.size + S.size := by omega
      have hmk : m < k := by omega
      have HM := Lib.hid hm
      clear hm
      by_cases ho : k % 2 = 1
      · have r1 : (k : Int).tmod 2 = 1 := by rw [show (2 : Int) = ((2 : Nat) : Int) from rfl, ← Int.ofNat_tmod]; omega
        have r2 : (k : Int) % 2 = 1 := by omega
        have n1 : ¬ 9223372036854775807 < O.size + S.size := by omega
        have HF := Lib.hid (many_odd hs ho)
        clear hs
        go_wp2_with fail
        go_roundw
        case rel => exact ⟨S ++ S, O ++ S, m, by omega, rfl, rfl, rfl, by rw [ByteArray.size_append, ByteArray.size_append, HM.out]; exact HF.out, trivial⟩
        case measure => simp [intOf] <;> omega
      · have r1 : (k : Int).tmod 2 = 0 := by rw [show (2 : Int) = ((2 : Nat) : Int) from rfl, ← Int.ofNat_tmod]; omega
        have r2 : (k : Int) % 2 = 0 := by omega
        have HF := Lib.hid (many_even hs ho)
        clear hs
        go_wp2_with fail
        go_roundw
        case rel => exact ⟨S ++ S, O, m, by omega, rfl, rfl, rfl, by rw [ByteArray.size_append, HM.out]; exact HF.out, trivial⟩
        case measure => simp [intOf] <;> omega
    · have h0p : ¬ (0 : Int) < (k : Int) := by omega
      have hO : O.size ≤ 62 := by omega
      clear hs
      go_wp2_with fail
      go_ret
      exact ⟨O, rfl, hO, rfl⟩
/-- a number, often a prime, and a text -/
def DrawIS (R : Nat) (a : Option Addr) (len cap q : Nat) (w : World) (e : Ending) (w' : World) : Prop :=
  ∃ (p : Int) (s : ByteArray) (q' : Nat), e = .returned (.tuple #[.int .i64 p, .string s]) ∧ (-9223372036854775808 ≤ p ∧ p ≤ 9223372036854775807) ∧ s.size ≤ 70 ∧ q' ≤ q + 200 ∧ Rd w' R a len cap q' ∧ w.grownBy w' (some R)
set_option maxRecDepth 100000 in
set_option maxHeartbeats 4000000 in
theorem form_any (R : Nat) (a : Option Addr) (len cap q : Nat) (w : World) (h : Rd w R a len cap q) (hq : q ≤ 800000) :
    Calls Tryz.prog 15 #[.pointer (some ⟨R, 0, none⟩)] w (DrawIS R a len cap q w) := by
  go_enter Tryz.func15, Tryz.ntmps15
  go_wp2_with fail
  refine (some_any R a len cap q w h (by omega)).mono ?_
  rintro e w1 ⟨p, q1, rfl, p0, p1, hq1, hR1, hg1⟩
  clear h
  go_wp2_with fail
  refine (field_any p w1).mono ?_
  rintro e w2 ⟨f, rfl, f0, f1, hb2⟩
  have hR2 : Rd w2 R a len cap q1 := Rd.far hR1 hb2.size (fun k hk => hb2.block k hk) hR1.sz (Rd.la hR1)
  have g2 := grown_trans hg1 (grown_of (R := R) hb2)
  clear hR1 hg1 hb2
  go_wp2_with fail
  refine (num_new R a len cap q1 [3, 2, 4, 1, 0] 5 rfl _ w2 hR2 (by omega) (by simp) (by simp) ?_).mono ?_
  · intro j hj
    have : j = 0 ∨ j = 1 ∨ j = 2 ∨ j = 3 ∨ j = 4 := by simp at hj; omega
    rcases this with rfl | rfl | rfl | rfl | rfl
    all_goals rfl
  rintro e w3 ⟨y, rfl, hy, hR3, hg3⟩
  have hy4 : 0 ≤ y ∧ y ≤ 4 := by simp at hy; omega
  have g3 := grown_trans g2 (grown_trans (grown_alloc w2 _ (some R)) hg3)
  clear g2 hg3 hR2 hy
  go_wp2_with fail
  refine (draw4 R a len cap f f0 f1 4 (q1 + 1) y w3 (by omega) (by omega) (by omega) hR3 (by show q1 + 1 + 124 ≤ 900000; omega)).mono ?_
  rintro e w4 ⟨s, q4, rfl, hs, hq4, hR4, hg4⟩
  have hs31 : s.size ≤ 31 := hs
  have hq4' : q4 ≤ q1 + 1 + 124 := hq4
  have g4 := grown_trans g3 hg4
  clear g3 hg4 hR3 hs hq4
  go_wp2_with fail
  refine (pick_any R a len cap q4 16 w4 hR4 (by omega)).mono ?_
  rintro e w5 ⟨x, rfl, x0, x1, hR5, hg5, hs5⟩
  have g5 := grown_trans g4 hg5
  clear g4 hg5 hR4 x1 hs5
  by_cases hx : x = 0
  · subst hx
    go_wp2_with fail
    refine (of_new R a len cap (q4 + 1) [⟨#[120]⟩, ⟨#[43]⟩, ⟨#[68]⟩, ⟨#[32]⟩, ⟨#[67]⟩] 5 rfl _ 1 (by decide) w5 hR5 (by omega) (by simp) (by simp) ?_).mono ?_
    · intro j hj
      have : j = 0 ∨ j = 1 ∨ j = 2 ∨ j = 3 ∨ j = 4 := by simp at hj; omega
      rcases this with rfl | rfl | rfl | rfl | rfl
      all_goals rfl
    rintro e w6 ⟨t, q6, rfl, ht, hq6, hR6, hg6⟩
    have g6 := Lib.hid (grown_trans g5 (grown_trans (grown_alloc w5 _ (some R)) hg6))
    clear g5 hg6 hR5
    have n1 : ¬ 9223372036854775807 < s.size + t.size := by omega
    go_wp2_with fail
    refine bodyPost_ret (v := .tuple #[.int .i64 p, .string (s ++ t)]) (by simp [results, Tryz.results15, go_sem]) rfl ⟨p, s ++ t, q6, rfl, ⟨p0, p1⟩, by rw [ByteArray.size_append]; omega, by omega, hR6, g6.out⟩
  · go_wp2_with fail
    refine (pick_any R a len cap (q4 + 1) 30 w5 hR5 (by omega)).mono ?_
    rintro e w6 ⟨y, rfl, y0, y1, hR6, hg6, hs6⟩
    have g6 := grown_trans g5 hg6
    clear g5 hg6 hR5 y1 hs6
    by_cases hy : y = 0
    · subst hy
      go_wp2_with fail
      refine (pick_any R a len cap (q4 + 1 + 1) 3 w6 hR6 (by omega)).mono ?_
      rintro e w7 ⟨z, rfl, z0, z1, hR7, hg7, hs7⟩
      have hz3 : z < 3 := by omega
      have g7 := Lib.hid (grown_trans g6 hg7)
      clear g6 hg7 hR6 z1 hs7
      obtain ⟨k, rfl⟩ := Int.eq_ofNat_of_zero_le z0
      have wk : IntKind.i64.wrap (29 + (k : Int)) = ((29 + k : Nat) : Int) := by rw [IntWalk.i64_in _ (by omega)]; omega
      go_wp2_with fail
      refine (many_any (29 + k) (by omega) w7).mono ?_
      rintro e w8 ⟨t, rfl, ht, rfl⟩
      have n1 : ¬ 9223372036854775807 < t.size + 1 := by omega
      go_wp2_with fail
      refine bodyPost_ret (v := .tuple #[.int .i64 p, .string (t ++ ⟨#[121]⟩)]) (by simp [results, Tryz.results15, go_sem]) rfl ⟨p, t ++ ⟨#[121]⟩, q4 + 1 + 1 + 1, rfl, ⟨p0, p1⟩, by rw [ByteArray.size_append]; show t.size + 1 ≤ 70; omega, by omega, hR7, g7.out⟩
    · go_wp2_with fail
      refine bodyPost_ret (v := .tuple #[.int .i64 p, .string s]) (by simp [results, Tryz.results15, go_sem]) rfl ⟨p, s, q4 + 1 + 1, rfl, ⟨p0, p1⟩, by omega, by omega, hR6, g6⟩
def DrawFm (w : World) (e : Ending) (w' : World) : Prop :=
  ∃ (p : Int) (s : ByteArray), e = .returned (.tuple #[.int .i64 p, .string s]) ∧ s.size ≤ 70 ∧ Below w.heap.size w w'
end Go.Proofs.YtoeghbcolpailaaGreat
