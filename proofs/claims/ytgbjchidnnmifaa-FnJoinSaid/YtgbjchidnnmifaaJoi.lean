/-
  Contracts of the model's l3Moved and JoinCircuits. Conditions: what the slices hold is known.
-/
import Derived.Test.YtgbjchidnnmifaaCirB
import Derived.Test.YtgbjchidnnmifaaRowGt
namespace Go.Proofs.Ytgbjchidnnmifaa
open Go.RowKit
/-- a gate whose parts lie so many gates further on -/
def movG (n : Int) (x : Gt) : Gt := if joinsB x then ⟨x.k, x.a + n, x.b + n⟩ else x
/-- the gates of two circuits and the gate that joins them -/
def joinL (L M : List Gt) (k : Int) : List Gt := L ++ M.map (movG L.length) ++ [⟨k, L.length - 1, L.length + M.length - 1⟩]
def joinB (p : Int) (L M : List Gt) (k : Int) : Bool := (circB p L && circB p M) && (inB k 2 3 && decide (L.length + M.length < 60))
def joinV (p : Int) (L M : List Gt) (k : Int) : List Gt := if joinB p L M k then joinL L M k else []
theorem flat_read {w : World} {g off : Nat} {L : List Gt} (hc : ∀ j : Nat, j < L.length → GAt w g (off + j * 3) (L.getD j default)) :
    ∀ (i : Nat) (u : Value), (flatG L)[i]? = some u → w.cell? ⟨g, off + i, none⟩ = some u := by
  intro i u hu
  have hi : i < (flatG L).length := by
    rcases Nat.lt_or_ge i (flatG L).length with h | h
    · exact h
    · rw [List.getElem?_eq_none h] at hu; cases hu
  rw [flatG_len] at hi
  have hj : i / 3 < L.length := by omega
  have hd : i % 3 < 3 := by omega
  have e : i = i / 3 * 3 + i % 3 := by omega
  rw [e, flatG_at L (i / 3) (i % 3) hj hd] at hu
  obtain ⟨h0, h1, h2⟩ := hc (i / 3) hj
  have : i % 3 = 0 ∨ i % 3 = 1 ∨ i % 3 = 2 := by omega
  rcases this with h | h | h
  · rw [h] at hu; simp [Gt.cs] at hu; subst hu
    rw [show off + i = off + i / 3 * 3 by omega]; exact h0
  · rw [h] at hu; simp [Gt.cs] at hu; subst hu
    rw [show off + i = off + i / 3 * 3 + 1 by omega]; exact h1
  · rw [h] at hu; simp [Gt.cs] at hu; subst hu
    rw [show off + i = off + i / 3 * 3 + 2 by omega]; exact h2
theorem flatG_all : ∀ (L : List Gt) (u : Value), u ∈ flatG L → u.oneCell' = true := flatG_cell
theorem take_snoc {L : List Gt} {k : Nat} (h : k < L.length) (f : Gt → Gt) : (L.map f).take (k + 1) = (L.map f).take k ++ [f (L.getD k default)] := by
  rw [List.take_succ_eq_append_getElem (by simpa using h)]
  simp [List.getD_eq_getElem?_getD, h]
set_option maxRecDepth 100000 in
set_option maxHeartbeats 8000000 in
theorem sMoved_some (q : Int) (g off cap : Nat) (L : List Gt) (n : Nat) (w : World) (hn : n ≤ 60) (hl : L.length ≤ 60) (hv : ∀ j : Nat, j < L.length → gOK q (gAt L j) j = true) (hg : g < w.heap.size)
    (hc : ∀ j : Nat, j < L.length → GAt w g (off + j * 3) (L.getD j default)) :
    Calls Try.prog 45 #[.slice (some ⟨g, off, none⟩) L.length cap, .int .i64 n] w fun e w' => ∃ v, e = .returned v ∧ RowGt w' w.heap.size v (L.map (movG n)) ∧ Below w.heap.size w w' := by
  obtain ⟨i0, hi, hz0, hz1, hz2⟩ := info_parts infoG
  have HC := Lib.hid hc
  have HA := Lib.hid hv
  clear hc hv
  go_enter Try.func45, Try.ntmps45
  go_wp2_with fail
  go_loopw [5, 11] (fun v i wr => ∃ k : Nat, k ≤ L.length ∧ i = .int .i64 k ∧ RowGt wr w.heap.size v ((L.map (movG n)).take k) ∧ Below w.heap.size w wr) (fun _ i _ => L.length - (intOf i).toNat)
  case atStart => exact ⟨0, by omega, rfl, by simpa using RowGt.lit0 w w.heap.size (Nat.le_refl _), Below.alloc (Below.refl _ _) (Nat.le_refl _) _⟩
  case round =>
    obtain ⟨k, hk, rfl, hR, hb⟩ := hrel
    by_cases hlt : k < L.length
    · have hltp : (k : Int) < (L.length : Int) := by omega
      have hk0 : (0 : Int) ≤ (k : Int) := by omega
      obtain ⟨a0, a1, a2⟩ := (HC.out k hlt).below hb hg
      have hx0 := HA.out k hlt
      obtain ⟨x, hx⟩ : ∃ x, x = L.getD k default := ⟨_, rfl⟩
      rw [← hx] at a0 a1 a2
      rw [← gat_mk hx] at hx0
      have hcs := gOK_cases hx0
      simp only at hcs
      have HE := Lib.hid (take_snoc hlt (movG n))
      rw [← hx] at HE
      have HW := Lib.hid hR
      have Hb := Lib.hid hb
      have hs := hb.size
      have hlen : ((L.map (movG n)).take k).length = k := by simp; omega
      obtain ⟨xk, xa, xb⟩ := x
      simp only at a0 a1 a2 hcs
      by_cases h2 : 2 ≤ xk
      · have hj : movG n ⟨xk, xa, xb⟩ = ⟨xk, xa + n, xb + n⟩ := by
          have : joinsB ⟨xk, xa, xb⟩ = true := by simp [joinsB]; omega
          simp [movG, this]
        rw [hj] at HE
        have w1 : IntKind.i64.wrap (xa + (n : Int)) = xa + n := IntWalk.i64_in _ (by omega)
        have w2 : IntKind.i64.wrap (xb + (n : Int)) = xb + n := IntWalk.i64_in _ (by omega)
        clear hx hR hb hx0 hcs hj
        go_wp2_with (at_builtin; refine wpList_append_own _ rfl _ _ 24 rfl (w.heap.size) 32 i0 (.agg #[.int .i64 0, .int .i64 0, .int .i64 0]) 3 24 Try.underlying24 hi hz0 hz1 hz2 rfl (by decide) _ _ _ rfl (RowGt.below HW.out (by repeat (first | exact Below.refl _ _ | apply Below.drew | apply below_drewN | (refine Below.alloc ?_ (by first | omega | (simp <;> omega)) _) | (refine Below.setCell ?_ (by first | omega | (simp <;> omega)) _)))) _ 1 1 [.int .i64 (xk), .int .i64 (xa + n), .int .i64 (xb + n)] rfl rfl (by intro j u hj; match j, hj with | 0, hj => (simp at hj; subst hj; simp [Addr.add, go_sem]) | 1, hj => (simp at hj; subst hj; simp [Addr.add, go_sem]) | 2, hj => (simp at hj; subst hj; simp [Addr.add, go_sem])) (gate_ok _ _ _) (by unfold maxLen; omega) (by first | omega | (simp; omega)) (by first | omega | (simp; omega)) ?_)
        intro v' w3 hown' hgrow _
        have hR2 := RowGt.snoc (L := (L.map (movG n)).take k) ⟨xk, xa + n, xb + n⟩ (by rw [hlen]; exact hown')
        have hb2 := HW.out.grow Hb.out hs (by repeat (first | exact Below.refl _ _ | apply Below.drew | apply below_drewN | (refine Below.alloc ?_ (by first | omega | (simp <;> omega)) _))) hgrow
        rw [← HE.out] at hR2
        clear hown' hgrow
        go_wp2_with fail
        go_roundw
        case rel => exact ⟨k + 1, by omega, by go_num, hR2, hb2⟩
        case measure => simp [intOf]; omega
      · have hj : movG n ⟨xk, xa, xb⟩ = ⟨xk, xa, xb⟩ := by
          have : joinsB ⟨xk, xa, xb⟩ = false := by simp [joinsB]; omega
          simp [movG, this]
        rw [hj] at HE
        clear hx hR hb hx0 hcs hj
        go_wp2_with (at_builtin; refine wpList_append_own _ rfl _ _ 24 rfl (w.heap.size) 32 i0 (.agg #[.int .i64 0, .int .i64 0, .int .i64 0]) 3 24 Try.underlying24 hi hz0 hz1 hz2 rfl (by decide) _ _ _ rfl (RowGt.below HW.out (by repeat (first | exact Below.refl _ _ | apply Below.drew | apply below_drewN | (refine Below.alloc ?_ (by first | omega | (simp <;> omega)) _) | (refine Below.setCell ?_ (by first | omega | (simp <;> omega)) _)))) _ 1 1 [.int .i64 (xk), .int .i64 (xa), .int .i64 (xb)] rfl rfl (by intro j u hj; match j, hj with | 0, hj => (simp at hj; subst hj; simp [Addr.add, go_sem]) | 1, hj => (simp at hj; subst hj; simp [Addr.add, go_sem]) | 2, hj => (simp at hj; subst hj; simp [Addr.add, go_sem])) (gate_ok _ _ _) (by unfold maxLen; omega) (by first | omega | (simp; omega)) (by first | omega | (simp; omega)) ?_)
        intro v' w3 hown' hgrow _
        have hR2 := RowGt.snoc (L := (L.map (movG n)).take k) ⟨xk, xa, xb⟩ (by rw [hlen]; exact hown')
        have hb2 := HW.out.grow Hb.out hs (by repeat (first | exact Below.refl _ _ | apply Below.drew | apply below_drewN | (refine Below.alloc ?_ (by first | omega | (simp <;> omega)) _))) hgrow
        rw [← HE.out] at hR2
        clear hown' hgrow
        go_wp2_with fail
        go_roundw
        case rel => exact ⟨k + 1, by omega, by go_num, hR2, hb2⟩
        case measure => simp [intOf]; omega
    · have hkl : k = L.length := by omega
      subst hkl
      have hT : (L.map (movG n)).take L.length = L.map (movG n) := List.take_of_length_le (by simp)
      rw [hT] at hR
      go_wp2_with fail
      go_ret
      exact ⟨_, rfl, hR, hb⟩
theorem joinB_iff {p k : Int} {L M : List Gt} : joinB p L M k = true ↔ circB p L = true ∧ circB p M = true ∧ (k = 2 ∨ k = 3) ∧ L.length + M.length < 60 := by
  unfold joinB inB
  simp only [Bool.and_eq_true, decide_eq_true_eq]
  constructor
  · rintro ⟨⟨h1, h2⟩, ⟨h3, h4⟩, h5⟩; exact ⟨h1, h2, by omega, h5⟩
  · rintro ⟨h1, h2, h3, h4⟩; exact ⟨⟨h1, h2⟩, ⟨by omega, by omega⟩, h4⟩
theorem gats_some {p : Int} {w : World} {v : Value} {L : List Gt} (h : Gats w v L) (hv : circB p L = true) :
    ∃ g off cap, v = .slice (some ⟨g, off, none⟩) L.length cap ∧ g < w.heap.size ∧ ∀ j : Nat, j < L.length → GAt w g (off + j * 3) (L.getD j default) := by
  obtain ⟨_, a, cap, rfl, h2⟩ := h
  rcases h2 with rfl | ⟨g, off, rfl, hg, hc⟩
  · have := (circB_iff.1 hv).2.1; simp at this
  · exact ⟨g, off, cap, rfl, hg, hc⟩
theorem addr_add (g o j : Nat) : (⟨g, o, none⟩ : Addr).add j = ⟨g, o + j, none⟩ := by simp [Addr.add]
theorem RowGt.read {w : World} {B g n cap : Nat} {L : List Gt} (h : RowGt w B (.slice (some ⟨g, 0, none⟩) n cap) L) : ∀ (i : Nat) (u : Value), (flatG L)[i]? = some u → w.cell? ((⟨g, 0, none⟩ : Addr).add i) = some u := by
  intro i u hu
  have hn : n = L.length := by
    rcases h.shape with ⟨e, _⟩ | ⟨g', cap', e, _⟩
    · cases e
    · injection e
  subst hn
  have := flat_read (off := 0) (fun j hj => by rw [Nat.zero_add]; exact RowGt.tat h rfl hj) i u hu
  rw [addr_add]; exact this
set_option maxRecDepth 100000 in
set_option maxHeartbeats 8000000 in
theorem sJoin_yes (p : Int) (f d : Value) (L M : List Gt) (k : Int) (w : World) (hj : joinB p L M k = true) (h1 : Gats w f L) (h2 : Gats w d M) :
    Calls Try.prog 20 #[.int .i64 p, f, d, .int .i64 k] w (GivesGB (joinL L M k) true w) := by
  obtain ⟨i0, hi, hz0, hz1, hz2⟩ := info_parts infoG
  obtain ⟨hL, hM, hk, hlen⟩ := joinB_iff.1 hj
  obtain ⟨_, l1, l2, hAL⟩ := circB_iff.1 hL
  obtain ⟨_, m1, m2, hAM⟩ := circB_iff.1 hM
  have HG1 := Lib.hid h1
  have HG2 := Lib.hid h2
  obtain ⟨g1, o1, c1, rfl, hg1, hc1⟩ := gats_some h1 hL
  obtain ⟨g2, o2, c2, rfl, hg2, hc2⟩ := gats_some h2 hM
  have HC1 := Lib.hid hc1
  have HC2 := Lib.hid hc2
  have HL := Lib.hid hL
  have HM := Lib.hid hM
  have HAM := Lib.hid hAM
  have hlp : (L.length : Int) + (M.length : Int) < 60 := by omega
  have hwl : IntKind.i64.wrap ((L.length : Int) + (M.length : Int)) = (L.length : Int) + (M.length : Int) := IntWalk.i64_in _ (by omega)
  have hkb := Lib.hid (show inB k 2 3 = true by unfold inB; simp; omega)
  clear h1 h2 hc1 hc2 hL hM hAM hAL hj hk
  go_enter Try.func20, Try.ntmps20
  go_wp2_with fail
  refine (sCircuitValid p _ L _ HG1.out).mono ?_
  rintro e w1 ⟨he, hb1⟩
  rw [HL.out] at he
  subst he
  go_wp2_with fail
  refine (sCircuitValid p _ M _ (Gats.below HG2.out hb1)).mono ?_
  rintro e w2 ⟨he, hb2⟩
  rw [HM.out] at he
  subst he
  have B2 : Below w.heap.size w w2 := hb1.trans (hb2.mono hb1.size)
  clear hb1 hb2
  go_wp2_with fail
  refine (sIn_at true k 2 3 hkb.out _).mono ?_
  rintro e w' ⟨rfl, rfl⟩
  have R2 := RowGt.lit0 w2 w.heap.size B2.size
  have hs2 := B2.size
  have BE : Below w.heap.size w (w2.alloc (.cells #[] 32)) := Below.alloc B2 B2.size _
  have F1 : ∀ (i : Nat) (u : Value), (flatG L)[i]? = some u → (w2.alloc (.cells #[] 32)).cell? ((⟨g1, o1, none⟩ : Addr).add i) = some u := by
    intro i u hu
    rw [addr_add]
    exact flat_read (fun j hj => (HC1.out j hj).below BE hg1) i u hu
  have HF1 := Lib.hid F1
  have HR2 := Lib.hid R2
  clear F1 R2
  go_wp2_with (at_builtin; refine wpList_append_own _ rfl _ _ 24 rfl w.heap.size 32 i0 (.agg #[.int .i64 0, .int .i64 0, .int .i64 0]) 3 24 Try.underlying24 hi hz0 hz1 hz2 rfl (by decide) _ _ _ rfl HR2.out ⟨g1, o1, none⟩ L.length c1 (flatG L) rfl (flatG_len L) HF1.out (flatG_cell L) (by unfold maxLen; simp; omega) (by simp; omega) (by simp; omega) ?_)
  intro v3 w3 hown hgrow _
  have R3 : RowGt w3 w.heap.size v3 L := by unfold RowGt; simpa [flatG] using hown
  have B3 : Below w.heap.size w w3 := (RowGt.nil w w.heap.size).grow (Below.refl _ _) (Nat.le_refl _) (Below.refl _ _) (by
    exact ⟨(BE.trans (HR2.out.low (Nat.le_trans hs2 (by simp)) hgrow)).os, (BE.trans (HR2.out.low (Nat.le_trans hs2 (by simp)) hgrow)).tape, (BE.trans (HR2.out.low (Nat.le_trans hs2 (by simp)) hgrow)).output, (BE.trans (HR2.out.low (Nat.le_trans hs2 (by simp)) hgrow)).size, fun k hk _ => (BE.trans (HR2.out.low (Nat.le_trans hs2 (by simp)) hgrow)).block k hk⟩)
  have HR3 := Lib.hid R3
  have HC3 := Lib.hid (fun (j : Nat) (hj : j < M.length) => (HC2.out j hj).below B3 hg2)
  have hs3 := B3.size
  have HB3 := Lib.hid B3
  have hg23 : g2 < w3.heap.size := by omega
  clear hown hgrow HR2 HF1 R3 BE B2 B3
  go_wp2_with fail
  refine (sMoved_some (p - 1) g2 o2 c2 M L.length w3 (by omega) (by omega) HAM.out hg23 HC3.out).mono ?_
  rintro e w4 ⟨mv, rfl, hRm, hb4⟩
  have R4 := HR3.out.below hb4
  have B4 := HB3.out.trans (hb4.mono hs3)
  have hmlen : (M.map (movG L.length)).length = M.length := by simp
  rcases hRm.shape with ⟨_, h0⟩ | ⟨gm, cm, rfl, hgm0, hgm, _, _⟩
  · have this := hmlen
    rw [h0] at this
    change 0 = M.length at this
    omega
  have HF4 := Lib.hid hRm.read
  rw [hmlen]
  have hs4 := B4.size
  have HR4 := Lib.hid R4
  have HB4 := Lib.hid B4
  clear hb4 hRm R4 B4
  have hfl : (flatG (M.map (movG L.length))).length = M.length * 3 := by rw [flatG_len, hmlen]
  go_wp2_with (at_builtin; refine wpList_append_own _ rfl _ _ 24 rfl w.heap.size 32 i0 (.agg #[.int .i64 0, .int .i64 0, .int .i64 0]) 3 24 Try.underlying24 hi hz0 hz1 hz2 rfl (by decide) _ _ _ rfl HR4.out ⟨gm, 0, none⟩ M.length cm (flatG (M.map (movG L.length))) rfl hfl HF4.out (flatG_cell _) (by unfold maxLen; omega) (by omega) (by omega) ?_)
  intro v5 w5 hown hgrow _
  have R5 : RowGt w5 w.heap.size v5 (L ++ M.map (movG L.length)) := RowGt.app hmlen.symm hown
  have HB5 := Lib.hid (HB4.out.trans (HR4.out.low hs4 hgrow))
  have hs5 := HB5.out.size
  have hlen5 : (L ++ M.map (movG L.length)).length = L.length + M.length := by simp
  rcases R5.shape with ⟨_, h0⟩ | ⟨g5, c5, rfl, hg50, hg5, _, _⟩
  · have this := hlen5
    rw [h0] at this
    change 0 = L.length + M.length at this
    omega
  rw [hlen5] at R5 ⊢
  have HR5 := Lib.hid R5
  have w6 : IntKind.i64.wrap ((L.length : Int) - 1) = (L.length : Int) - 1 := IntWalk.i64_in _ (by omega)
  have w7 : IntKind.i64.wrap ((L.length : Int) + (M.length : Int) - 1) = (L.length : Int) + (M.length : Int) - 1 := IntWalk.i64_in _ (by omega)
  clear hown hgrow R5 HF4 HR4 HR3 HC3
  go_wp2_with (at_builtin; refine wpList_append_own _ rfl _ _ 24 rfl (w.heap.size) 32 i0 (.agg #[.int .i64 0, .int .i64 0, .int .i64 0]) 3 24 Try.underlying24 hi hz0 hz1 hz2 rfl (by decide) _ _ _ rfl (RowGt.below HR5.out (by repeat (first | exact Below.refl _ _ | apply Below.drew | apply below_drewN | (refine Below.alloc ?_ (by first | omega | (simp <;> omega)) _) | (refine Below.setCell ?_ (by first | omega | (simp <;> omega)) _)))) _ 1 1 [.int .i64 (k), .int .i64 ((L.length : Int) - 1), .int .i64 ((L.length : Int) + (M.length : Int) - 1)] rfl rfl (by intro j u hj; match j, hj with | 0, hj => (simp at hj; subst hj; simp [Addr.add, go_sem]) | 1, hj => (simp at hj; subst hj; simp [Addr.add, go_sem]) | 2, hj => (simp at hj; subst hj; simp [Addr.add, go_sem])) (gate_ok _ _ _) (by unfold maxLen; omega) (by first | omega | (simp; omega)) (by first | omega | (simp; omega)) ?_)
  intro v6 w8 hown hgrow _
  have R6 := RowGt.snoc (L := L ++ M.map (movG L.length)) ⟨k, (L.length : Int) - 1, (L.length : Int) + (M.length : Int) - 1⟩ (by rw [hlen5]; exact hown)
  have B6 := HR5.out.grow HB5.out hs5 (by repeat (first | exact Below.refl _ _ | apply Below.drew | apply below_drewN | (refine Below.alloc ?_ (by first | omega | (simp <;> omega)) _))) hgrow
  clear hown hgrow
  go_wp2_with fail
  refine bodyPost_ret (v := .tuple #[v6, .bool true]) (by simp [results, Try.results20, go_sem]) rfl ⟨_, rfl, ?_, B6⟩
  exact R6.own (by simp; omega)
set_option maxHeartbeats 2000000 in
theorem sJoin_no (p : Int) (f d : Value) (L M : List Gt) (k : Int) (w : World) (hj : joinB p L M k = false) (h1 : Gats w f L) (h2 : Gats w d M) :
    Calls Try.prog 20 #[.int .i64 p, f, d, .int .i64 k] w (GivesGB [] false w) := by
  obtain ⟨nL, aL, cL, rfl, _⟩ := h1
  obtain ⟨nM, aM, cM, rfl, _⟩ := h2
  have HG1 := Lib.hid (⟨nL, aL, cL, rfl, by assumption⟩ : Gats w (.slice aL L.length cL) L)
  have HG2 := Lib.hid (⟨nM, aM, cM, rfl, by assumption⟩ : Gats w (.slice aM M.length cM) M)
  cases hL : circB p L
  · have HL := Lib.hid hL
    clear hj hL
    go_enter Try.func20, Try.ntmps20
    go_wp2_with fail
    refine (sCircuitValid p _ L _ HG1.out).mono ?_
    rintro e w1 ⟨he, hb1⟩
    rw [HL.out] at he
    subst he
    have HB := Lib.hid hb1
    clear hb1
    go_wp2_with fail
    refine bodyPost_ret (v := .tuple #[.slice (some ⟨w1.heap.size, 0, none⟩) 0 0, .bool false]) (by simp [results, Try.results20, go_sem]) rfl ⟨_, rfl, (RowGt.lit0 w1 w.heap.size HB.out.size).own (by simp), Below.alloc HB.out HB.out.size _⟩
  · have HL := Lib.hid hL
    cases hM : circB p M
    · have HM := Lib.hid hM
      clear hj hL hM
      go_enter Try.func20, Try.ntmps20
      go_wp2_with fail
      refine (sCircuitValid p _ L _ HG1.out).mono ?_
      rintro e w1 ⟨he, hb1⟩
      rw [HL.out] at he
      subst he
      go_wp2_with fail
      refine (sCircuitValid p _ M _ (Gats.below HG2.out hb1)).mono ?_
      rintro e w2 ⟨he, hb2⟩
      rw [HM.out] at he
      subst he
      have HB := Lib.hid (hb1.trans (hb2.mono hb1.size))
      clear hb1 hb2
      go_wp2_with fail
      refine bodyPost_ret (v := .tuple #[.slice (some ⟨w2.heap.size, 0, none⟩) 0 0, .bool false]) (by simp [results, Try.results20, go_sem]) rfl ⟨_, rfl, (RowGt.lit0 w2 w.heap.size HB.out.size).own (by simp), Below.alloc HB.out HB.out.size _⟩
    · have HM := Lib.hid hM
      have l2 := (circB_iff.1 hL).2.2.1
      have m2 := (circB_iff.1 hM).2.2.1
      cases hk : inB k 2 3
      · have HK := Lib.hid hk
        clear hj hL hM hk
        go_enter Try.func20, Try.ntmps20
        go_wp2_with fail
        refine (sCircuitValid p _ L _ HG1.out).mono ?_
        rintro e w1 ⟨he, hb1⟩
        rw [HL.out] at he
        subst he
        go_wp2_with fail
        refine (sCircuitValid p _ M _ (Gats.below HG2.out hb1)).mono ?_
        rintro e w2 ⟨he, hb2⟩
        rw [HM.out] at he
        subst he
        have HB := Lib.hid (hb1.trans (hb2.mono hb1.size))
        clear hb1 hb2
        go_wp2_with fail
        refine (sIn_at false k 2 3 HK.out _).mono ?_
        rintro e w' ⟨rfl, rfl⟩
        go_wp2_with fail
        refine bodyPost_ret (v := .tuple #[.slice (some ⟨w2.heap.size, 0, none⟩) 0 0, .bool false]) (by simp [results, Try.results20, go_sem]) rfl ⟨_, rfl, (RowGt.lit0 w2 w.heap.size HB.out.size).own (by simp), Below.alloc HB.out HB.out.size _⟩
      · have HK := Lib.hid hk
        have hlen : 60 ≤ L.length + M.length := by
          unfold joinB at hj
          rw [hL, hM, hk] at hj
          simp at hj
          omega
        have hlp : (60 : Int) ≤ (L.length : Int) + (M.length : Int) := by omega
        have hwl : IntKind.i64.wrap ((L.length : Int) + (M.length : Int)) = (L.length : Int) + (M.length : Int) := IntWalk.i64_in _ (by omega)
        clear hj hL hM hk
        go_enter Try.func20, Try.ntmps20
        go_wp2_with fail
        refine (sCircuitValid p _ L _ HG1.out).mono ?_
        rintro e w1 ⟨he, hb1⟩
        rw [HL.out] at he
        subst he
        go_wp2_with fail
        refine (sCircuitValid p _ M _ (Gats.below HG2.out hb1)).mono ?_
        rintro e w2 ⟨he, hb2⟩
        rw [HM.out] at he
        subst he
        have HB := Lib.hid (hb1.trans (hb2.mono hb1.size))
        clear hb1 hb2
        go_wp2_with fail
        refine (sIn_at true k 2 3 HK.out _).mono ?_
        rintro e w' ⟨rfl, rfl⟩
        go_wp2_with fail
        refine bodyPost_ret (v := .tuple #[.slice (some ⟨w2.heap.size, 0, none⟩) 0 0, .bool false]) (by simp [results, Try.results20, go_sem]) rfl ⟨_, rfl, (RowGt.lit0 w2 w.heap.size HB.out.size).own (by simp), Below.alloc HB.out HB.out.size _⟩
theorem sJoinCircuits (p : Int) (f d : Value) (L M : List Gt) (k : Int) (w : World) (h1 : Gats w f L) (h2 : Gats w d M) :
    Calls Try.prog 20 #[.int .i64 p, f, d, .int .i64 k] w (GivesGB (joinV p L M k) (joinB p L M k) w) := by
  cases hj : joinB p L M k
  · have e : joinV p L M k = [] := by simp [joinV, hj]
    rw [e]; exact sJoin_no p f d L M k w hj h1 h2
  · have e : joinV p L M k = joinL L M k := by simp [joinV, hj]
    rw [e]; exact sJoin_yes p f d L M k w hj h1 h2
end Go.Proofs.Ytgbjchidnnmifaa
