/-
  Contracts of the program's maker of circuits: put, moved, made. Conditions: what the maker's cells and its row of gates hold is known.
  Contracts of the program's made and JoinCircuits. Conditions: what the slices hold is known.
-/
import Derived.Test.YtbgcamkclbcaiaaBc12
import Derived.Test.YtbgcamkclbcaiaaBc6
namespace Go.Proofs.Ytbgcamkclbcaiaa
open Go.RowKit
/-- a maker's two cells: the slice of its gates, whose block is another one, and the prime -/
structure MakW (w : World) (G : Nat) (p : Int) (v : Value) : Prop where
  c0 : w.cell? ⟨G, 0, none⟩ = some v
  c1 : w.cell? ⟨G, 1, none⟩ = some (.int .i64 p)
  f0 : w.frozen? ⟨G, 0, none⟩ = false
  lt : G < w.heap.size
theorem MakW.below {w w' : World} {G : Nat} {p : Int} {v : Value} (h : MakW w G p v) (hb : Below w.heap.size w w') : MakW w' G p v := by
  have hl := h.lt
  exact ⟨by rw [hb.cell (p := ⟨G, 0, none⟩) hl]; exact h.c0, by rw [hb.cell (p := ⟨G, 1, none⟩) hl]; exact h.c1, by rw [hb.frozen (p := ⟨G, 0, none⟩) hl]; exact h.f0, Nat.lt_of_lt_of_le hl hb.size⟩
theorem MakW.set {w : World} {G : Nat} {p : Int} {v : Value} (h : MakW w G p v) (u : Value) : MakW (w.setCell ⟨G, 0, none⟩ u) G p u := by
  refine ⟨World.cell?_setCell_same _ _ _ h.c0, ?_, by rw [World.frozen?_setCell]; exact h.f0, by simpa using h.lt⟩
  rw [World.cell?_setCell_other _ _ _ _ (addr_ne (by omega))]; exact h.c1
theorem MakW.grown {w w' : World} {G : Nat} {p : Int} {v u : Value} (h : MakW w G p v) (hb : w.grownBy w' u.ownBlock) (hne : u.ownBlock ≠ some G) :
    w'.cell? ⟨G, 0, none⟩ = some v ∧ w'.cell? ⟨G, 1, none⟩ = some (.int .i64 p) ∧ w'.frozen? ⟨G, 0, none⟩ = false ∧ G < w'.heap.size := by
  have e := hb.block G h.lt (fun e => hne e.symm)
  exact ⟨by rw [World.cell?_of_block (a := ⟨G, 0, none⟩) e]; exact h.c0, by rw [World.cell?_of_block (a := ⟨G, 1, none⟩) e]; exact h.c1, by rw [World.frozen?_of_block (a := ⟨G, 0, none⟩) e]; exact h.f0, Nat.lt_of_lt_of_le h.lt hb.size⟩
set_option maxRecDepth 100000 in
set_option maxHeartbeats 8000000 in
theorem iPutG (B G : Nat) (p : Int) (v : Value) (L : List Gt) (x : Gt) (w : World) (hl : L.length ≤ 1000) (hBG : B ≤ G) (h : MakW w G p v) (hr : RowGt w (G + 1) v L) :
    Calls Try.prog 155 #[.pointer (some ⟨G, 0, none⟩), .agg #[.int .i64 x.k, .int .i64 x.a, .int .i64 x.b]] w fun e w' =>
      ∃ v', e = .returned (.int .i64 L.length) ∧ RowGt w' (G + 1) v' (L ++ [x]) ∧ MakW w' G p v' ∧ Below B w w' := by
  obtain ⟨i0, hi, hz0, hz1, hz2⟩ := info_parts infoG
  obtain ⟨W, hW⟩ : ∃ W, W = w.alloc (Obj.cells #[.int .i64 x.k, .int .i64 x.a, .int .i64 x.b] 113) := ⟨_, rfl⟩
  have bW : Below w.heap.size w W := by rw [hW]; exact Below.alloc (Below.refl _ _) (Nat.le_refl _) _
  have e0 : W.cell? ⟨w.heap.size, 0, none⟩ = some (.int .i64 x.k) := by rw [hW]; simp [go_sem]
  have e1 : W.cell? ⟨w.heap.size, 1, none⟩ = some (.int .i64 x.a) := by rw [hW]; simp [go_sem]
  have e2 : W.cell? ⟨w.heap.size, 2, none⟩ = some (.int .i64 x.b) := by rw [hW]; simp [go_sem]
  have hM := h.below bW
  have hR := hr.below bW
  have hsW : w.heap.size < W.heap.size := by rw [hW]; simp
  have HW := Lib.hid hW
  have c0 := hM.c0
  have c1 := hM.c1
  have f0 := hM.f0
  have hG := hM.lt
  have HM := Lib.hid hM
  have HR := Lib.hid hR
  have HbW := Lib.hid bW
  have hGw : G + 1 ≤ w.heap.size := h.lt
  clear hW hM hR bW h hr
  go_enter Try.func155, Try.ntmps155
  go_wp2_with fail
  rw [← HW.out]
  clear HW
  go_region_law (refine step_append_own rfl _ _ 43 rfl (G + 1) 113 i0 (.agg #[.int .i64 0, .int .i64 0, .int .i64 0]) 3 24 Try.underlying43 hi hz0 hz1 hz2 rfl (by decide) v L.length (flatG L) (by simp [Act.eval]) (RowGt.below HR.out (by repeat (first | exact Below.refl _ _ | apply Below.drew | apply below_drewN | (refine Below.alloc ?_ (by first | omega | (simp <;> omega)) _)))) _ 1 1 [.int .i64 x.k, .int .i64 x.a, .int .i64 x.b] (by simp [Act.eval]; rfl) rfl (by intro j u hj; match j, hj with | 0, hj => (simp at hj; subst hj; simp [Addr.add, go_sem]) | 1, hj => (simp at hj; subst hj; simp [Addr.add, go_sem]) | 2, hj => (simp at hj; subst hj; simp [Addr.add, go_sem])) (gate_ok _ _ _) (by unfold maxLen; omega) (by omega) (by first | omega | (simp; omega)) ?_; intro v' w3 hown' hgrow; obtain ⟨k0, k1, k2, k3⟩ := (MakW.below HM.out (by repeat (first | exact Below.refl _ _ | apply Below.drew | apply below_drewN | (refine Below.alloc ?_ (by first | omega | (simp <;> omega)) _)))).grown hgrow (HR.out.block (Nat.lt_succ_self G)); obtain ⟨gv, cv, rfl, hg1, hg2⟩ := (RowGt.snoc x hown').slice)
  all_goals
    have hR3 : RowGt w3 (G + 1) (.slice (some ⟨gv, 0, none⟩) (L.length + 1) cv) (L ++ [x]) := RowGt.snoc x hown'
    have hR4 := hR3.setFar (Nat.lt_succ_self G) 0 (.slice (some ⟨gv, 0, none⟩) (L.length + 1) cv)
    have hM4 : MakW (w3.setCell ⟨G, 0, none⟩ (.slice (some ⟨gv, 0, none⟩) (L.length + 1) cv)) G p (.slice (some ⟨gv, 0, none⟩) (L.length + 1) cv) := MakW.set ⟨k0, k1, k2, k3⟩ _
    have hB4 : Below B w (w3.setCell ⟨G, 0, none⟩ (.slice (some ⟨gv, 0, none⟩) (L.length + 1) cv)) :=
      ((HR.out.grow (HbW.out.mono hGw) (by omega) (by repeat (first | exact Below.refl _ _ | apply Below.drew | apply below_drewN | (refine Below.alloc ?_ (by first | omega | (simp <;> omega)) _))) hgrow).mono (by omega)).setCell hBG _
    have HL := Lib.hid (show (((L.length + 1 : Nat) : Int) - 1 = ((L.length : Nat) : Int)) by omega)
    clear hown' hgrow hR3 c0 c1 f0 e0 e1 e2
    go_wp2_with (go_at_call 102; refine (iLast _ (L.length + 1) _ L.length (by omega) HL.out _).mono ?_; rintro e w' ⟨rfl, rfl⟩)
    go_ret
    exact ⟨_, rfl, hR4, hM4, hB4⟩
end Go.Proofs.Ytbgcamkclbcaiaa
namespace Go.Proofs.Ytbgcamkclbcaiaa
open Go.RowKit
theorem keepMak {W w1 : World} {G : Nat} {a b : Value} (hb : Below W.heap.size W w1) (hG : G < W.heap.size) (h : W.cell? ⟨G, 0, none⟩ = some a ∧ W.cell? ⟨G, 1, none⟩ = some b) :
    w1.cell? ⟨G, 0, none⟩ = some a ∧ w1.cell? ⟨G, 1, none⟩ = some b :=
  ⟨by rw [hb.cell (p := ⟨G, 0, none⟩) hG]; exact h.1, by rw [hb.cell (p := ⟨G, 1, none⟩) hG]; exact h.2⟩
/-- what 'made' hands back: the gates if they are a circuit, else nil -/
def madeV (p : Int) (L : List Gt) (v : Value) : Value := if circB p L = true then v else .slice none 0 0
set_option maxRecDepth 100000 in
set_option maxHeartbeats 8000000 in
theorem iMade (G : Nat) (p : Int) (v : Value) (L : List Gt) (w : World) (h : MakW w G p v) (hg : Gats w v L) :
    Calls Try.prog 156 #[.pointer (some ⟨G, 0, none⟩)] w fun e w' => e = .returned (.tuple #[madeV p L v, .bool (circB p L)]) ∧ Below w.heap.size w w' := by
  have c0 := h.c0
  have c1 := h.c1
  have hG := h.lt
  have HG := Lib.hid hg
  have HM := Lib.hid h
  rcases Bool.eq_false_or_eq_true (circB p L) with hv | hv
  · have HV := Lib.hid hv
    have hm : madeV p L v = v := by simp [madeV, hv]
    rw [hm, hv]
    clear hg h hv hm
    obtain ⟨nL, a, cap, rfl, _⟩ := HG.out
    go_enter Try.func156, Try.ntmps156
    go_wp2_with fail
    go_region_held3 (fun w' => w'.cell? ⟨G, 0, none⟩ = some (.slice a L.length cap) ∧ w'.cell? ⟨G, 1, none⟩ = some (.int .i64 p)) (first | exact keepMak hb1 (by simpa using hG) (by assumption) | go_keep)
      (first | (go_at_call 113; refine (iCircuitValid p _ L _ (Gats.below HG.out (by repeat (first | exact Below.refl _ _ | apply Below.drew)))).mono ?_; rintro e w1 ⟨he, hb1⟩; rw [HV.out] at he; subst he))
    all_goals
      have B1 : Below w.heap.size w w1 := (Below.drew (Below.refl _ _) : Below w.heap.size w w.drew).trans (by simpa using hb1)
      go_wp2_with fail
      refine bodyPost_ret (v := .tuple #[.slice a L.length cap, .bool true]) (by simp [results, Try.results156, go_sem]) rfl ⟨rfl, B1⟩
  · have HV := Lib.hid hv
    have hm : madeV p L v = .slice none 0 0 := by simp [madeV, hv]
    rw [hm, hv]
    clear hg h hv hm
    obtain ⟨nL, a, cap, rfl, _⟩ := HG.out
    go_enter Try.func156, Try.ntmps156
    go_wp2_with fail
    go_region_held3 (fun w' => w'.cell? ⟨G, 0, none⟩ = some (.slice a L.length cap) ∧ w'.cell? ⟨G, 1, none⟩ = some (.int .i64 p)) (first | exact keepMak hb1 (by simpa using hG) (by assumption) | go_keep)
      (first | (go_at_call 113; refine (iCircuitValid p _ L _ (Gats.below HG.out (by repeat (first | exact Below.refl _ _ | apply Below.drew)))).mono ?_; rintro e w1 ⟨he, hb1⟩; rw [HV.out] at he; subst he))
    all_goals
      have B1 : Below w.heap.size w w1 := (Below.drew (Below.refl _ _) : Below w.heap.size w w.drew).trans (by simpa using hb1)
      go_wp2_with fail
      refine bodyPost_ret (v := .tuple #[.slice none 0 0, .bool false]) (by simp [results, Try.results156, go_sem]) rfl ⟨rfl, B1⟩
theorem iLastZ (a : Option Addr) (n cap : Nat) (hn : n ≤ 1048576) (w : World) :
    Calls Try.prog 102 #[.slice a n cap] w fun e w' => e = .returned (.int .i64 ((n : Int) - 1)) ∧ w = w' := by
  have hw := IntWalk.i64_in ((n : Int) - 1) (by omega)
  go_enter Try.func102, Try.ntmps102
  go_wp2
  go_ret
  exact ⟨rfl, rfl⟩
theorem gOK_mono {q : Int} {x : Gt} {i j : Int} (h : gOK q x i = true) (hij : i ≤ j) : gOK q x j = true := by
  rcases gOK_cases h with h | h | h
  · simp [gOK, h, inB] <;> omega
  · simp [gOK, h, inB] <;> omega
  · rcases h with ⟨h1 | h1, h2⟩ <;> (simp [gOK, h1, inB]; omega)
theorem gOK_mov {q : Int} {x : Gt} {i : Int} {n : Nat} (h : gOK q x i = true) : gOK q (movG n x) (i + n) = true := by
  rcases gOK_cases h with h1 | h1 | h1
  · have : joinsB x = false := by simp [joinsB, h1]
    simp only [movG, this]
    exact gOK_mono h (by omega)
  · have : joinsB x = false := by simp [joinsB, h1]
    simp only [movG, this]
    exact gOK_mono h (by omega)
  · have : joinsB x = true := by rcases h1.1 with e | e <;> simp [joinsB, e]
    simp only [movG, this, if_true]
    rcases h1 with ⟨e | e, h2⟩ <;> (simp [gOK, e, inB]; omega)
theorem joinL_len (L M : List Gt) (k : Int) : (joinL L M k).length = L.length + M.length + 1 := by simp [joinL]; omega
theorem joinL_at {L M : List Gt} {k : Int} (j : Nat) (hj : j < L.length + M.length + 1) :
    gAt (joinL L M k) j = if j < L.length then gAt L j else if j < L.length + M.length then movG L.length (gAt M (j - L.length)) else ⟨k, L.length - 1, L.length + M.length - 1⟩ := by
  unfold gAt joinL
  simp only [List.getD_eq_getElem?_getD]
  by_cases h1 : j < L.length
  · rw [if_pos h1, List.getElem?_append_left (by simp; omega), List.getElem?_append_left h1]
  · rw [if_neg h1]
    by_cases h2 : j < L.length + M.length
    · rw [if_pos h2, List.getElem?_append_left (by simp; omega), List.getElem?_append_right (by omega)]
      have h3 : j - L.length < M.length := by omega
      simp [h3]
    · rw [if_neg h2, List.getElem?_append_right (by simp; omega)]
      have : j - (L ++ M.map (movG L.length)).length = 0 := by simp; omega
      rw [this]
      simp
theorem joinL_ok {p k : Int} {L M : List Gt} (h : joinB p L M k = true) : circB p (joinL L M k) = true := by
  obtain ⟨hL, hM, hk, hlen⟩ := joinB_iff.1 h
  obtain ⟨hp, l1, _, hl⟩ := circB_iff.1 hL
  obtain ⟨_, m1, _, hm⟩ := circB_iff.1 hM
  refine circB_iff.2 ⟨hp, by rw [joinL_len]; omega, by rw [joinL_len]; omega, fun j hj => ?_⟩
  rw [joinL_len] at hj
  rw [joinL_at j hj]
  by_cases h1 : j < L.length
  · rw [if_pos h1]; exact hl j h1
  · rw [if_neg h1]
    by_cases h2 : j < L.length + M.length
    · rw [if_pos h2]
      have := gOK_mov (n := L.length) (hm (j - L.length) (by omega))
      have e : (((j - L.length : Nat) : Int) + (L.length : Nat)) = (j : Int) := by omega
      rw [e] at this
      exact this
    · rw [if_neg h2]
      have : j = L.length + M.length := by omega
      subst this
      rcases hk with rfl | rfl <;> (simp [gOK, inB]; omega)
theorem joinL_circ {p k : Int} {L M : List Gt} (hL : circB p L = true) (hM : circB p M = true) (hk : k = 2 ∨ k = 3) : circB p (joinL L M k) = joinB p L M k := by
  cases h : joinB p L M k
  · refine circB_long ?_
    rw [joinL_len]
    have : ¬ (L.length + M.length < 60) := fun hl => by
      rw [joinB_iff.2 ⟨hL, hM, hk, hl⟩] at h; cases h
    omega
  · exact joinL_ok h
theorem take_snocI {L : List Gt} {k : Nat} (h : k < L.length) : L.take (k + 1) = L.take k ++ [L.getD k default] := by
  rw [List.take_succ_eq_append_getElem h]
  simp [List.getD_eq_getElem?_getD, h]
end Go.Proofs.Ytbgcamkclbcaiaa
