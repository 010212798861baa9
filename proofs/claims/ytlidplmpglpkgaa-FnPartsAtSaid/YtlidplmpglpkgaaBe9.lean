/-
  Contracts of the program's maker of circuits: put, moved, made. Conditions: what the maker's cells and its row of gates hold is known.
  Contracts of the program's made and JoinCircuits. Conditions: what the slices hold is known.
-/
import Derived.Test.YtlidplmpglpkgaaBe8
import Derived.Test.YtlidplmpglpkgaaBa6
import Derived.Test.YtlidplmpglpkgaaBa12
namespace Go.Proofs.Ytlidplmpglpkgaa
open Go.RowKit
/-- a maker's two cells: the slice of its gates, whose block is another one, and the prime -/
structure MakW (w : World) (G : Nat) (p : Int) (v : Value) : Prop where
  c0 : w.cell? ⟨G, 0, none⟩ = some v
  c1 : w.cell? ⟨G, 1, none⟩ = some (.int .i64 p)
  f0 : w.frozen? ⟨G, 0, none⟩ = false
  lt : G < w.heap.size
theorem MakW.below {w w' : World} {G : Nat} {p : Int} {v : Value} (h : MakW w G p v) (hb : Below w.heap.size w w') : MakW w' G p v := by
  have hl := h.lt
  exact ⟨by rw [hb.cell (p := ⟨G, 0, none⟩) hl]; exact h.c0, by rw [hb.cell (p := ⟨G, 1, none⟩) hl]; exact h.c1, by rw [hb.frozen (p := ⟨G, 0, none⟩) hl]; exact h.f0, Nat.lt_of_lt_of_le hl hb.size⟩
theorem MakW.set {w : World} {G : Nat} {p : Int} {v : Value} (h : MakW w G p v) (u : Value) : MakW (w.setCell ⟨G, 0, none⟩ u) G p u := by
  refine ⟨World.cell?_setCell_same _ _ _ h.c0, ?_, by rw [World.frozen?_setCell]; exact h.f0, by simpa using h.lt⟩
  rw [World.cell?_setCell_other _ _ _ _ (addr_ne (by omega))]; exact h.c1
theorem MakW.grown {w w' : World} {G : Nat} {p : Int} {v u : Value} (h : MakW w G p v) (hb : w.grownBy w' u.ownBlock) (hne : u.ownBlock ≠ some G) :
    w'.cell? ⟨G, 0, none⟩ = some v ∧ w'.cell? ⟨G, 1, none⟩ = some (.int .i64 p) ∧ w'.frozen? ⟨G, 0, none⟩ = false ∧ G < w'.heap.size := by
  have e := hb.block G h.lt (fun e => hne e.symm)
  exact ⟨by rw [World.cell?_of_block (a := ⟨G, 0, none⟩) e]; exact h.c0, by rw [World.cell?_of_block (a := ⟨G, 1, none⟩) e]; exact h.c1, by rw [World.frozen?_of_block (a := ⟨G, 0, none⟩) e]; exact h.f0, Nat.lt_of_lt_of_le h.lt hb.size⟩
set_option maxRecDepth 100000 in
set_option maxHeartbeats 8000000 in
theorem iPutG (B G : Nat) (p : Int) (v : Value) (L : List Gt) (x : Gt) (w : World) (hl : L.length ≤ 1000) (hBG : B ≤ G) (h : MakW w G p v) (hr : RowGt w (G + 1) v L) :
    Calls Try.prog 145 #[.pointer (some ⟨G, 0, none⟩), .agg #[.int .i64 x.k, .int .i64 x.a, .int .i64 x.b]] w fun e w' =>
      ∃ v', e = .returned (.int .i64 L.length) ∧ RowGt w' (G + 1) v' (L ++ [x]) ∧ MakW w' G p v' ∧ Below B w w' := by
  obtain ⟨i0, hi, hz0, hz1, hz2⟩ := info_parts infoG
  obtain ⟨W, hW⟩ : ∃ W, W = w.alloc (Obj.cells #[.int .i64 x.k, .int .i64 x.a, .int .i64 x.b] 137) := ⟨_, rfl⟩
  have bW : Below w.heap.size w W := by rw [hW]; exact Below.alloc (Below.refl _ _) (Nat.le_refl _) _
  have e0 : W.cell? ⟨w.heap.size, 0, none⟩ = some (.int .i64 x.k) := by rw [hW]; simp [go_sem]
  have e1 : W.cell? ⟨w.heap.size, 1, none⟩ = some (.int .i64 x.a) := by rw [hW]; simp [go_sem]
  have e2 : W.cell? ⟨w.heap.size, 2, none⟩ = some (.int .i64 x.b) := by rw [hW]; simp [go_sem]
  have hM := h.below bW
  have hR := hr.below bW
  have hsW : w.heap.size < W.heap.size := by rw [hW]; simp
  have HW := Lib.hid hW
  have c0 := hM.c0
  have c1 := hM.c1
  have f0 := hM.f0
  have hG := hM.lt
  have HM := Lib.hid hM
  have HR := Lib.hid hR
  have HbW := Lib.hid bW
  have hGw : G + 1 ≤ w.heap.size := h.lt
  clear hW hM hR bW h hr
  go_enter Try.func145, Try.ntmps145
  go_wp2_with fail
  rw [← HW.out]
  clear HW
  go_region_law (refine step_append_own rfl _ _ 43 rfl (G + 1) 137 i0 (.agg #[.int .i64 0, .int .i64 0, .int .i64 0]) 3 24 Try.underlying43 hi hz0 hz1 hz2 rfl (by decide) v L.length (flatG L) (by simp [Act.eval]) (RowGt.below HR.out (by repeat (first | exact Below.refl _ _ | apply Below.drew | apply below_drewN | (refine Below.alloc ?_ (by first | omega | (simp <;> omega)) _)))) _ 1 1 [.int .i64 x.k, .int .i64 x.a, .int .i64 x.b] (by simp [Act.eval]; rfl) rfl (by intro j u hj; match j, hj with | 0, hj => (simp at hj; subst hj; simp [Addr.add, go_sem]) | 1, hj => (simp at hj; subst hj; simp [Addr.add, go_sem]) | 2, hj => (simp at hj; subst hj; simp [Addr.add, go_sem])) (gate_ok _ _ _) (by unfold maxLen; omega) (by omega) (by first | omega | (simp; omega)) ?_; intro v' w3 hown' hgrow; obtain ⟨k0, k1, k2, k3⟩ := (MakW.below HM.out (by repeat (first | exact Below.refl _ _ | apply Below.drew | apply below_drewN | (refine Below.alloc ?_ (by first | omega | (simp <;> omega)) _)))).grown hgrow (HR.out.block (Nat.lt_succ_self G)); obtain ⟨gv, cv, rfl, hg1, hg2⟩ := (RowGt.snoc x hown').slice)
  all_goals
    have hR3 : RowGt w3 (G + 1) (.slice (some ⟨gv, 0, none⟩) (L.length + 1) cv) (L ++ [x]) := RowGt.snoc x hown'
    have hR4 := hR3.setFar (Nat.lt_succ_self G) 0 (.slice (some ⟨gv, 0, none⟩) (L.length + 1) cv)
    have hM4 : MakW (w3.setCell ⟨G, 0, none⟩ (.slice (some ⟨gv, 0, none⟩) (L.length + 1) cv)) G p (.slice (some ⟨gv, 0, none⟩) (L.length + 1) cv) := MakW.set ⟨k0, k1, k2, k3⟩ _
    have hB4 : Below B w (w3.setCell ⟨G, 0, none⟩ (.slice (some ⟨gv, 0, none⟩) (L.length + 1) cv)) :=
      ((HR.out.grow (HbW.out.mono hGw) (by omega) (by repeat (first | exact Below.refl _ _ | apply Below.drew | apply below_drewN | (refine Below.alloc ?_ (by first | omega | (simp <;> omega)) _))) hgrow).mono (by omega)).setCell hBG _
    have HL := Lib.hid (show (((L.length + 1 : Nat) : Int) - 1 = ((L.length : Nat) : Int)) by omega)
    clear hown' hgrow hR3 c0 c1 f0 e0 e1 e2
    go_wp2_with (go_at_call 127; refine (iLast _ (L.length + 1) _ L.length (by omega) HL.out _).mono ?_; rintro e w' ⟨rfl, rfl⟩)
    go_ret
    exact ⟨_, rfl, hR4, hM4, hB4⟩
set_option maxHeartbeats 4000000 in
theorem iMoved (k a b : Int) (n : Nat) (w : World) (hn : n ≤ 1000) (ha : 0 ≤ a ∧ a ≤ 1000) (hb : 0 ≤ b ∧ b ≤ 1000) :
    Calls Try.prog 146 #[.agg #[.int .i64 k, .int .i64 a, .int .i64 b], .int .i64 n] w fun e w' => e = .returned (.agg #[.int .i64 (movG n ⟨k, a, b⟩).k, .int .i64 (movG n ⟨k, a, b⟩).a, .int .i64 (movG n ⟨k, a, b⟩).b]) ∧ Below w.heap.size w w' := by
  obtain ⟨W, hW⟩ : ∃ W, W = (w.alloc (Obj.cells #[.int .i64 k, .int .i64 a, .int .i64 b] 137)).alloc (Obj.cells #[.int .i64 0, .int .i64 0, .int .i64 0] 137) := ⟨_, rfl⟩
  have bW : Below w.heap.size w W := by rw [hW]; exact (by repeat (first | exact Below.refl _ _ | apply Below.drew | apply below_drewN | (refine Below.alloc ?_ (by first | omega | (simp <;> omega)) _)))
  have hsW : W.heap.size = w.heap.size + 2 := by rw [hW]; simp
  have e0 : W.cell? ⟨w.heap.size, 0, none⟩ = some (.int .i64 k) := by rw [hW]; simp [go_sem]
  have e1 : W.cell? ⟨w.heap.size, 1, none⟩ = some (.int .i64 a) := by rw [hW]; simp [go_sem]
  have e2 : W.cell? ⟨w.heap.size, 2, none⟩ = some (.int .i64 b) := by rw [hW]; simp [go_sem]
  have r0 : W.cell? ⟨w.heap.size + 1, 0, none⟩ = some (.int .i64 0) := by rw [hW]; simp [go_sem]
  have r1 : W.cell? ⟨w.heap.size + 1, 1, none⟩ = some (.int .i64 0) := by rw [hW]; simp [go_sem]
  have r2 : W.cell? ⟨w.heap.size + 1, 2, none⟩ = some (.int .i64 0) := by rw [hW]; simp [go_sem]
  have fz : ∀ g o : Nat, w.heap.size ≤ g → g < W.heap.size → W.frozen? ⟨g, o, none⟩ = false := by
    intro g o h1 h2
    rw [hsW] at h2
    have : g = w.heap.size ∨ g = w.heap.size + 1 := by omega
    rcases this with rfl | rfl <;> (rw [hW]; simp [go_sem])
  have w1 : IntKind.i64.wrap (a + (n : Int)) = a + n := IntWalk.i64_in _ (by omega)
  have w2 : IntKind.i64.wrap (b + (n : Int)) = b + n := IntWalk.i64_in _ (by omega)
  have hlt0 : w.heap.size < W.heap.size := by omega
  have hlt1 : w.heap.size + 1 < W.heap.size := by omega
  have HW := Lib.hid hW
  cases hj : joinsB ⟨k, a, b⟩
  · have hm : movG n ⟨k, a, b⟩ = ⟨k, a, b⟩ := by simp [movG, hj]
    rw [hm]
    have HJ := Lib.hid hj
    clear hj hm hW
    go_enter Try.func146, Try.ntmps146
    go_wp2_with fail
    rw [← HW.out]
    clear HW
    refine (iJoins_is false k a b HJ.out _).mono ?_
    rintro e W2 ⟨rfl, hb2⟩
    have q0 := hb2.cell (p := ⟨w.heap.size, 0, none⟩) hlt0
    have q1 := hb2.cell (p := ⟨w.heap.size, 1, none⟩) hlt0
    have q2 := hb2.cell (p := ⟨w.heap.size, 2, none⟩) hlt0
    have s0 := hb2.cell (p := ⟨w.heap.size + 1, 0, none⟩) hlt1
    have s1 := hb2.cell (p := ⟨w.heap.size + 1, 1, none⟩) hlt1
    have s2 := hb2.cell (p := ⟨w.heap.size + 1, 2, none⟩) hlt1
    have z0 := hb2.frozen (p := ⟨w.heap.size + 1, 0, none⟩) hlt1
    have z1 := hb2.frozen (p := ⟨w.heap.size + 1, 1, none⟩) hlt1
    have z2 := hb2.frozen (p := ⟨w.heap.size + 1, 2, none⟩) hlt1
    rw [e0] at q0; rw [e1] at q1; rw [e2] at q2; rw [r0] at s0; rw [r1] at s1; rw [r2] at s2
    rw [fz _ _ (by omega) (by omega)] at z0 z1 z2
    have B2 := Lib.hid (bW.trans (hb2.mono bW.size))
    clear hb2 e0 e1 e2 r0 r1 r2 fz bW hsW
    go_wp2_with fail
    refine bodyPost_ret (v := .agg #[.int .i64 k, .int .i64 a, .int .i64 b]) (by simp [results, Try.results146, go_sem, *]) rfl ⟨rfl, ?_⟩
    repeat (first | exact B2.out | apply Below.drew | (refine Below.setCell ?_ (by first | omega | (simp <;> omega)) _))
  · have hm : movG n ⟨k, a, b⟩ = ⟨k, a + n, b + n⟩ := by simp [movG, hj]
    rw [hm]
    have HJ := Lib.hid hj
    clear hj hm hW
    go_enter Try.func146, Try.ntmps146
    go_wp2_with fail
    rw [← HW.out]
    clear HW
    refine (iJoins_is true k a b HJ.out _).mono ?_
    rintro e W2 ⟨rfl, hb2⟩
    have q0 := hb2.cell (p := ⟨w.heap.size, 0, none⟩) hlt0
    have q1 := hb2.cell (p := ⟨w.heap.size, 1, none⟩) hlt0
    have q2 := hb2.cell (p := ⟨w.heap.size, 2, none⟩) hlt0
    have s0 := hb2.cell (p := ⟨w.heap.size + 1, 0, none⟩) hlt1
    have s1 := hb2.cell (p := ⟨w.heap.size + 1, 1, none⟩) hlt1
    have s2 := hb2.cell (p := ⟨w.heap.size + 1, 2, none⟩) hlt1
    have z0 := hb2.frozen (p := ⟨w.heap.size + 1, 0, none⟩) hlt1
    have z1 := hb2.frozen (p := ⟨w.heap.size + 1, 1, none⟩) hlt1
    have z2 := hb2.frozen (p := ⟨w.heap.size + 1, 2, none⟩) hlt1
    rw [e0] at q0; rw [e1] at q1; rw [e2] at q2; rw [r0] at s0; rw [r1] at s1; rw [r2] at s2
    have y1 := hb2.frozen (p := ⟨w.heap.size, 1, none⟩) hlt0
    have y2 := hb2.frozen (p := ⟨w.heap.size, 2, none⟩) hlt0
    rw [fz _ _ (by omega) (by omega)] at z0 z1 z2 y1 y2
    have B2 := Lib.hid (bW.trans (hb2.mono bW.size))
    clear hb2 e0 e1 e2 r0 r1 r2 fz bW hsW
    go_wp2_with fail
    refine bodyPost_ret (v := .agg #[.int .i64 k, .int .i64 (a + n), .int .i64 (b + n)]) (by simp [results, Try.results146, go_sem, *]) rfl ⟨rfl, ?_⟩
    repeat (first | exact B2.out | apply Below.drew | (refine Below.setCell ?_ (by first | omega | (simp <;> omega)) _))
end Go.Proofs.Ytlidplmpglpkgaa
namespace Go.Proofs.Ytlidplmpglpkgaa
open Go.RowKit
theorem keepMak {W w1 : World} {G : Nat} {a b : Value} (hb : Below W.heap.size W w1) (hG : G < W.heap.size) (h : W.cell? ⟨G, 0, none⟩ = some a ∧ W.cell? ⟨G, 1, none⟩ = some b) :
    w1.cell? ⟨G, 0, none⟩ = some a ∧ w1.cell? ⟨G, 1, none⟩ = some b :=
  ⟨by rw [hb.cell (p := ⟨G, 0, none⟩) hG]; exact h.1, by rw [hb.cell (p := ⟨G, 1, none⟩) hG]; exact h.2⟩
/-- what 'made' hands back: the gates if they are a circuit, else nil -/
def madeV (p : Int) (L : List Gt) (v : Value) : Value := if circB p L = true then v else .slice none 0 0
set_option maxRecDepth 100000 in
set_option maxHeartbeats 8000000 in
theorem iMade (G : Nat) (p : Int) (v : Value) (L : List Gt) (w : World) (h : MakW w G p v) (hg : Gats w v L) :
    Calls Try.prog 123 #[.pointer (some ⟨G, 0, none⟩)] w fun e w' => e = .returned (.tuple #[madeV p L v, .bool (circB p L)]) ∧ Below w.heap.size w w' := by
  have c0 := h.c0
  have c1 := h.c1
  have hG := h.lt
  have HG := Lib.hid hg
  have HM := Lib.hid h
  rcases Bool.eq_false_or_eq_true (circB p L) with hv | hv
  · have HV := Lib.hid hv
    have hm : madeV p L v = v := by simp [madeV, hv]
    rw [hm, hv]
    clear hg h hv hm
    obtain ⟨nL, a, cap, rfl, _⟩ := HG.out
    go_enter Try.func123, Try.ntmps123
    go_wp2_with fail
    go_region_held3 (fun w' => w'.cell? ⟨G, 0, none⟩ = some (.slice a L.length cap) ∧ w'.cell? ⟨G, 1, none⟩ = some (.int .i64 p)) (first | exact keepMak hb1 (by simpa using hG) (by assumption) | go_keep)
      (first | (go_at_call 119; refine (iCircuitValid p _ L _ (Gats.below HG.out (by repeat (first | exact Below.refl _ _ | apply Below.drew)))).mono ?_; rintro e w1 ⟨he, hb1⟩; rw [HV.out] at he; subst he))
    all_goals
      have B1 : Below w.heap.size w w1 := (Below.drew (Below.refl _ _) : Below w.heap.size w w.drew).trans (by simpa using hb1)
      go_wp2_with fail
      refine bodyPost_ret (v := .tuple #[.slice a L.length cap, .bool true]) (by simp [results, Try.results123, go_sem]) rfl ⟨rfl, B1⟩
  · have HV := Lib.hid hv
    have hm : madeV p L v = .slice none 0 0 := by simp [madeV, hv]
    rw [hm, hv]
    clear hg h hv hm
    obtain ⟨nL, a, cap, rfl, _⟩ := HG.out
    go_enter Try.func123, Try.ntmps123
    go_wp2_with fail
    go_region_held3 (fun w' => w'.cell? ⟨G, 0, none⟩ = some (.slice a L.length cap) ∧ w'.cell? ⟨G, 1, none⟩ = some (.int .i64 p)) (first | exact keepMak hb1 (by simpa using hG) (by assumption) | go_keep)
      (first | (go_at_call 119; refine (iCircuitValid p _ L _ (Gats.below HG.out (by repeat (first | exact Below.refl _ _ | apply Below.drew)))).mono ?_; rintro e w1 ⟨he, hb1⟩; rw [HV.out] at he; subst he))
    all_goals
      have B1 : Below w.heap.size w w1 := (Below.drew (Below.refl _ _) : Below w.heap.size w w.drew).trans (by simpa using hb1)
      go_wp2_with fail
      refine bodyPost_ret (v := .tuple #[.slice none 0 0, .bool false]) (by simp [results, Try.results123, go_sem]) rfl ⟨rfl, B1⟩
theorem iLastZ (a : Option Addr) (n cap : Nat) (hn : n ≤ 1048576) (w : World) :
    Calls Try.prog 127 #[.slice a n cap] w fun e w' => e = .returned (.int .i64 ((n : Int) - 1)) ∧ w = w' := by
  have hw := IntWalk.i64_in ((n : Int) - 1) (by omega)
  go_enter Try.func127, Try.ntmps127
  go_wp2
  go_ret
  exact ⟨rfl, rfl⟩
theorem gOK_mono {q : Int} {x : Gt} {i j : Int} (h : gOK q x i = true) (hij : i ≤ j) : gOK q x j = true := by
  rcases gOK_cases h with h | h | h
  · simp [gOK, h, inB] <;> omega
  · simp [gOK, h, inB] <;> omega
  · rcases h with ⟨h1 | h1, h2⟩ <;> (simp [gOK, h1, inB]; omega)
theorem gOK_mov {q : Int} {x : Gt} {i : Int} {n : Nat} (h : gOK q x i = true) : gOK q (movG n x) (i + n) = true := by
  rcases gOK_cases h with h1 | h1 | h1
  · have : joinsB x = false := by simp [joinsB, h1]
    simp only [movG, this]
    exact gOK_mono h (by omega)
  · have : joinsB x = false := by simp [joinsB, h1]
    simp only [movG, this]
    exact gOK_mono h (by omega)
  · have : joinsB x = true := by rcases h1.1 with e | e <;> simp [joinsB, e]
    simp only [movG, this, if_true]
    rcases h1 with ⟨e | e, h2⟩ <;> (simp [gOK, e, inB]; omega)
theorem joinL_len (L M : List Gt) (k : Int) : (joinL L M k).length = L.length + M.length + 1 := by simp [joinL]; omega
theorem joinL_at {L M : List Gt} {k : Int} (j : Nat) (hj : j < L.length + M.length + 1) :
    gAt (joinL L M k) j = if j < L.length then gAt L j else if j < L.length + M.length then movG L.length (gAt M (j - L.length)) else ⟨k, L.length - 1, L.length + M.length - 1⟩ := by
  unfold gAt joinL
  simp only [List.getD_eq_getElem?_getD]
  by_cases h1 : j < L.length
  · rw [if_pos h1, List.getElem?_append_left (by simp; omega), List.getElem?_append_left h1]
  · rw [if_neg h1]
    by_cases h2 : j < L.length + M.length
    · rw [if_pos h2, List.getElem?_append_left (by simp; omega), List.getElem?_append_right (by omega)]
      have h3 : j - L.length < M.length := by omega
      simp [h3]
    · rw [if_neg h2, List.getElem?_append_right (by simp; omega)]
      have : j - (L ++ M.map (movG L.length)).length = 0 := by simp; omega
      rw [this]
      simp
theorem joinL_ok {p k : Int} {L M : List Gt} (h : joinB p L M k = true) : circB p (joinL L M k) = true := by
  obtain ⟨hL, hM, hk, hlen⟩ := joinB_iff.1 h
  obtain ⟨hp, l1, _, hl⟩ := circB_iff.1 hL
  obtain ⟨_, m1, _, hm⟩ := circB_iff.1 hM
  refine circB_iff.2 ⟨hp, by rw [joinL_len]; omega, by rw [joinL_len]; omega, fun j hj => ?_⟩
  rw [joinL_len] at hj
  rw [joinL_at j hj]
  by_cases h1 : j < L.length
  · rw [if_pos h1]; exact hl j h1
  · rw [if_neg h1]
    by_cases h2 : j < L.length + M.length
    · rw [if_pos h2]
      have := gOK_mov (n := L.length) (hm (j - L.length) (by omega))
      have e : (((j - L.length : Nat) : Int) + (L.length : Nat)) = (j : Int) := by omega
      rw [e] at this
      exact this
    · rw [if_neg h2]
      have : j = L.length + M.length := by omega
      subst this
      rcases hk with rfl | rfl <;> (simp [gOK, inB]; omega)
theorem joinL_circ {p k : Int} {L M : List Gt} (hL : circB p L = true) (hM : circB p M = true) (hk : k = 2 ∨ k = 3) : circB p (joinL L M k) = joinB p L M k := by
  cases h : joinB p L M k
  · refine circB_long ?_
    rw [joinL_len]
    have : ¬ (L.length + M.length < 60) := fun hl => by
      rw [joinB_iff.2 ⟨hL, hM, hk, hl⟩] at h; cases h
    omega
  · exact joinL_ok h
theorem take_snocI {L : List Gt} {k : Nat} (h : k < L.length) : L.take (k + 1) = L.take k ++ [L.getD k default] := by
  rw [List.take_succ_eq_append_getElem h]
  simp [List.getD_eq_getElem?_getD, h]
set_option maxRecDepth 100000 in
set_option maxHeartbeats 8000000 in
theorem iJoin_mid (p : Int) (f d : Value) (L M : List Gt) (k : Int) (w : World) (hL : circB p L = true) (hM : circB p M = true) (hk : k = 2 ∨ k = 3) (h1 : Gats w f L) (h2 : Gats w d M) :
    Calls Try.prog 52 #[.int .i64 p, f, d, .int .i64 k] w fun e w' => ∃ v, e = .returned (.tuple #[madeV p (joinL L M k) v, .bool (circB p (joinL L M k))]) ∧ RowGt w' w.heap.size v (joinL L M k) ∧ Below w.heap.size w w' := by
  obtain ⟨hp, l1, l2, hAL⟩ := circB_iff.1 hL
  obtain ⟨_, m1, m2, hAM⟩ := circB_iff.1 hM
  obtain ⟨p0, p1⟩ := isP_bd hp
  clear hp
  obtain ⟨g1, o1, c1, rfl, hg1, hc1⟩ := gats_some h1 hL
  obtain ⟨g2, o2, c2, rfl, hg2, hc2⟩ := gats_some h2 hM
  have HC1 := Lib.hid hc1
  have HC2 := Lib.hid hc2
  have HG1 := Lib.hid h1
  have HG2 := Lib.hid h2
  have HL := Lib.hid hL
  have HM := Lib.hid hM
  have HAM := Lib.hid hAM
  have hjb := Lib.hid (show joinsB ⟨k, (L.length : Int) - 1, (L.length : Int) + ((M.length : Int) - 1)⟩ = true by rcases hk with rfl | rfl <;> rfl)
  have hwl : IntKind.i64.wrap ((L.length : Int) + ((M.length : Int) - 1)) = (L.length : Int) + ((M.length : Int) - 1) := IntWalk.i64_in _ (by omega)
  obtain ⟨WJ, hWJ⟩ : ∃ W, W = w.alloc (Obj.cells #[.int .i64 k, .int .i64 ((L.length : Int) - 1), .int .i64 ((L.length : Int) + ((M.length : Int) - 1))] 137) := ⟨_, rfl⟩
  have BJ : Below w.heap.size w WJ := by rw [hWJ]; exact (by repeat (first | exact Below.refl _ _ | apply Below.drew | apply below_drewN | (refine Below.alloc ?_ (by first | omega | (simp <;> omega)) _)))
  have hsJ : WJ.heap.size = w.heap.size + 1 := by rw [hWJ]; simp
  have GJ : GAt WJ w.heap.size 0 ⟨k, (L.length : Int) - 1, (L.length : Int) + ((M.length : Int) - 1)⟩ := by rw [hWJ]; refine ⟨?_, ?_, ?_⟩ <;> simp [go_sem]
  have HWJ := Lib.hid hWJ
  clear h1 h2 hc1 hc2 hL hM hAM hAL hk hWJ
  go_enter Try.func52, Try.ntmps52
  go_wp2_with fail
  refine (iLastZ _ L.length _ (by omega) _).mono ?_
  rintro e w' ⟨rfl, rfl⟩
  go_wp2_with fail
  refine (iLastZ _ M.length _ (by omega) _).mono ?_
  rintro e w' ⟨rfl, rfl⟩
  go_wp2_with fail
  rw [← HWJ.out]
  clear HWJ
  refine (iCircuitValid p _ L _ (HG1.out.below BJ)).mono ?_
  rintro e w1 ⟨he, hb1⟩
  rw [HL.out] at he
  subst he
  go_wp2_with fail
  refine (iCircuitValid p _ M _ ((HG2.out.below BJ).below hb1)).mono ?_
  rintro e w2 ⟨he, hb2⟩
  rw [HM.out] at he
  subst he
  have B2 : Below WJ.heap.size WJ w2 := hb1.trans (hb2.mono hb1.size)
  obtain ⟨j0, j1, j2⟩ := GJ.below B2 (by omega)
  clear hb1 hb2
  go_wp2_with fail
  refine (iJoins_is true _ _ _ hjb.out _).mono ?_
  rintro e w3 ⟨rfl, hb3⟩
  have B3 : Below WJ.heap.size WJ w3 := B2.trans (hb3.mono B2.size)
  have hs3 := B3.size
  obtain ⟨G, hG⟩ : ∃ G, G = w3.heap.size := ⟨_, rfl⟩
  have hJG : w.heap.size + 1 ≤ G := by omega
  have M0 : MakW (w3.alloc (Obj.cells #[.slice none 0 0, .int .i64 p] 127)) G p (.slice none 0 0) := by
    rw [hG]; refine ⟨?_, ?_, ?_, by simp⟩ <;> simp [go_sem]
  have B4 : Below WJ.heap.size WJ (w3.alloc (Obj.cells #[.slice none 0 0, .int .i64 p] 127)) := Below.alloc B3 hs3 _
  have R0 := RowGt.nil (w3.alloc (Obj.cells #[.slice none 0 0, .int .i64 p] 127)) (G + 1)
  clear hb3 j0 j1 j2 B2 B3
  go_wp2_with fail
  rw [← hG]
  rw [hsJ] at B4 hs3
  have HBJ := Lib.hid BJ
  clear hG BJ
  go_loopw [44] (fun i wr => ∃ n : Nat, n ≤ L.length ∧ i = .int .i64 n ∧ (∃ v, MakW wr G p v ∧ RowGt wr (G + 1) v (L.take n)) ∧ Below (w.heap.size + 1) WJ wr) (fun i _ => L.length - (intOf i).toNat)
  case atStart => exact ⟨0, by omega, rfl, ⟨_, M0, by simpa using R0⟩, B4⟩
  case round =>
    clear M0 R0 B4
    obtain ⟨n, hn, rfl, ⟨v, hM, hR⟩, hb⟩ := hrel
    by_cases hlt : n < L.length
    · have hltp : (n : Int) < (L.length : Int) := by omega
      have hn0 : (0 : Int) ≤ (n : Int) := by omega
      obtain ⟨a0, a1, a2⟩ := ((HC1.out n hlt).below HBJ.out hg1).below hb (by omega)
      obtain ⟨x, hx⟩ : ∃ x, x = L.getD n default := ⟨_, rfl⟩
      rw [← hx] at a0 a1 a2
      have HE := Lib.hid (take_snocI hlt)
      rw [← hx] at HE
      have hlen : (L.take n).length = n := by simp; omega
      have HPut := Lib.hid (fun w' (h : Below wr.heap.size wr w') => iPutG (w.heap.size + 1) G p v (L.take n) x w' (by omega) hJG (hM.below h) (hR.below h))
      have Hb := Lib.hid hb
      have hs := hb.size
      rw [hlen] at HPut
      clear hx hM hR hb
      go_wp2_with fail
      refine (HPut.out _ (by repeat (first | exact Below.refl _ _ | apply Below.drew | apply below_drewN | (refine Below.alloc ?_ (by first | omega | (simp <;> omega)) _)))).mono ?_
      rintro e w5 ⟨v5, rfl, hR5, hM5, hb5⟩
      have B5 : Below (w.heap.size + 1) WJ w5 := (Below.alloc Hb.out (by omega) _).trans hb5
      rw [← HE.out] at hR5
      clear hb5
      go_wp2_with fail
      go_roundw
      case rel => exact ⟨n + 1, by omega, by go_num, ⟨v5, hM5, hR5⟩, B5⟩
      case measure => simp [intOf]; omega
    · have hnl : n = L.length := by omega
      subst hnl
      rw [List.take_length] at hR
      go_wp2_with fail
      go_loopw [53] (fun i wr => ∃ n : Nat, n ≤ M.length ∧ i = .int .i64 n ∧ (∃ v, MakW wr G p v ∧ RowGt wr (G + 1) v (L ++ (M.map (movG L.length)).take n)) ∧ Below (w.heap.size + 1) WJ wr) (fun i _ => M.length - (intOf i).toNat)
      case atStart => exact ⟨0, by omega, rfl, ⟨_, hM, by simpa using hR⟩, hb⟩
      case round =>
        clear hM hR hb
        obtain ⟨n, hn, rfl, ⟨v, hM, hR⟩, hb⟩ := hrel
        by_cases hlt : n < M.length
        · have hltp : (n : Int) < (M.length : Int) := by omega
          have hn0 : (0 : Int) ≤ (n : Int) := by omega
          obtain ⟨a0, a1, a2⟩ := ((HC2.out n hlt).below HBJ.out hg2).below hb (by omega)
          have hx0 := HAM.out n hlt
          obtain ⟨x, hx⟩ : ∃ x, x = M.getD n default := ⟨_, rfl⟩
          rw [← hx] at a0 a1 a2
          rw [← gat_mk hx] at hx0
          have hcs := gOK_cases hx0
          simp only at hcs
          have HE := Lib.hid (take_snoc hlt (movG L.length))
          rw [← hx] at HE
          have hlen : (L ++ (M.map (movG L.length)).take n).length = L.length + n := by simp; omega
          have HPut := Lib.hid (fun w' (h : Below wr.heap.size wr w') => iPutG (w.heap.size + 1) G p v (L ++ (M.map (movG L.length)).take n) (movG L.length x) w' (by omega) hJG (hM.below h) (hR.below h))
          have Hmv := Lib.hid (fun w' => iMoved x.k x.a x.b L.length w' (by omega) (by omega) (by omega))
          have Hb := Lib.hid hb
          have hs := hb.size
          rw [hlen] at HPut
          clear hx hM hR hb hx0 hcs
          go_wp2_with fail
          refine (Hmv.out _).mono ?_
          rintro e w5 ⟨rfl, hb5⟩
          have B5 : Below wr.heap.size wr w5 := ((by repeat (first | exact Below.refl _ _ | apply Below.drew | apply below_drewN | (refine Below.alloc ?_ (by first | omega | (simp <;> omega)) _))) : Below wr.heap.size wr (wr.alloc (Obj.cells #[.int .i64 x.k, .int .i64 x.a, .int .i64 x.b] 137))).trans (hb5.mono (by simp))
          clear hb5
          go_wp2_with fail
          refine (HPut.out _ B5).mono ?_
          rintro e w6 ⟨v6, rfl, hR6, hM6, hb6⟩
          have B6 : Below (w.heap.size + 1) WJ w6 := (Hb.out.trans (B5.mono (by omega))).trans hb6
          rw [List.append_assoc, ← HE.out] at hR6
          clear hb6 B5
          go_wp2_with fail
          go_roundw
          case rel => exact ⟨n + 1, by omega, by go_num, ⟨v6, hM6, hR6⟩, B6⟩
          case measure => simp [intOf]; omega
        · have hnl : n = M.length := by omega
          subst hnl
          have hT : (M.map (movG L.length)).take M.length = M.map (movG L.length) := List.take_of_length_le (by simp)
          rw [hT] at hR
          obtain ⟨a0, a1, a2⟩ := GJ.below hb (by omega)
          have hlen : (L ++ M.map (movG L.length)).length = L.length + M.length := by simp
          have HPut := Lib.hid (fun w' (h : Below wr.heap.size wr w') => iPutG (w.heap.size + 1) G p v (L ++ M.map (movG L.length)) ⟨k, (L.length : Int) - 1, (L.length : Int) + ((M.length : Int) - 1)⟩ w' (by omega) hJG (hM.below h) (hR.below h))
          have Hb := Lib.hid hb
          have hs := hb.size
          rw [hlen] at HPut
          clear hM hR hb
          go_wp2_with fail
          refine (HPut.out _ (by repeat (first | exact Below.refl _ _ | apply Below.drew | apply below_drewN | (refine Below.alloc ?_ (by first | omega | (simp <;> omega)) _)))).mono ?_
          rintro e w6 ⟨v6, rfl, hR6, hM6, hb6⟩
          have B6 : Below (w.heap.size + 1) WJ w6 := Hb.out.trans hb6
          have eJ : joinL L M k = L ++ M.map (movG L.length) ++ [⟨k, (L.length : Int) - 1, (L.length : Int) + ((M.length : Int) - 1)⟩] := by
            unfold joinL
            rw [show (L.length : Int) + ((M.length : Int) - 1) = (L.length : Int) + M.length - 1 by omega]
          rw [← eJ] at hR6
          have hO := (hR6.own (by rw [joinL_len]; omega)).gats
          have HR6 := Lib.hid hR6
          have B7 : Below w.heap.size w w6 := HBJ.out.trans (B6.mono (by omega))
          clear hb6 B6 eJ hR6
          go_wp2_with fail
          refine (iMade G p v6 (joinL L M k) _ hM6 hO).mono ?_
          rintro e w7 ⟨rfl, hb7⟩
          have B8 := B7.trans (hb7.mono B7.size)
          have R8 := HR6.out.below hb7
          clear hO hM6 hb7 B7
          go_wp2_with fail
          refine bodyPost_ret (v := .tuple #[madeV p (joinL L M k) v6, .bool (circB p (joinL L M k))]) (by simp [results, Try.results52, go_sem]) rfl ⟨v6, rfl, ?_, B8⟩
          exact R8.mono (by omega)
set_option maxRecDepth 100000 in
set_option maxHeartbeats 4000000 in
theorem iJoin_no (p : Int) (f d : Value) (L M : List Gt) (k : Int) (w : World) (hj : (circB p L && circB p M && inB k 2 3) = false) (h1 : Gats w f L) (h2 : Gats w d M) :
    Calls Try.prog 52 #[.int .i64 p, f, d, .int .i64 k] w (GivesGB [] false w) := by
  obtain ⟨nL, aL, cL, rfl, _⟩ := h1
  obtain ⟨nM, aM, cM, rfl, _⟩ := h2
  have HG1 := Lib.hid (⟨nL, aL, cL, rfl, by assumption⟩ : Gats w (.slice aL L.length cL) L)
  have HG2 := Lib.hid (⟨nM, aM, cM, rfl, by assumption⟩ : Gats w (.slice aM M.length cM) M)
  have hwl : IntKind.i64.wrap ((L.length : Int) + ((M.length : Int) - 1)) = (L.length : Int) + ((M.length : Int) - 1) := IntWalk.i64_in _ (by omega)
  obtain ⟨WJ, hWJ⟩ : ∃ W, W = w.alloc (Obj.cells #[.int .i64 k, .int .i64 ((L.length : Int) - 1), .int .i64 ((L.length : Int) + ((M.length : Int) - 1))] 137) := ⟨_, rfl⟩
  have BJ : Below w.heap.size w WJ := by rw [hWJ]; exact (by repeat (first | exact Below.refl _ _ | apply Below.drew | apply below_drewN | (refine Below.alloc ?_ (by first | omega | (simp <;> omega)) _)))
  have GJ : GAt WJ w.heap.size 0 ⟨k, (L.length : Int) - 1, (L.length : Int) + ((M.length : Int) - 1)⟩ := by rw [hWJ]; refine ⟨?_, ?_, ?_⟩ <;> simp [go_sem]
  have hlJ : w.heap.size < WJ.heap.size := by rw [hWJ]; simp
  have HWJ := Lib.hid hWJ
  have HBJ := Lib.hid BJ
  clear hWJ BJ
  cases hL : circB p L
  · have HL := Lib.hid hL
    clear hj hL
    go_enter Try.func52, Try.ntmps52
    go_wp2_with fail
    refine (iLastZ _ L.length _ (by omega) _).mono ?_
    rintro e w' ⟨rfl, rfl⟩
    go_wp2_with fail
    refine (iLastZ _ M.length _ (by omega) _).mono ?_
    rintro e w' ⟨rfl, rfl⟩
    go_wp2_with fail
    rw [← HWJ.out]
    refine (iCircuitValid p _ L _ (Gats.below HG1.out HBJ.out)).mono ?_
    rintro e w1 ⟨he, hb1⟩
    rw [HL.out] at he
    subst he
    have B1 := HBJ.out.trans (hb1.mono HBJ.out.size)
    clear hb1
    go_wp2_with fail
    refine bodyPost_ret (v := .tuple #[.slice none 0 0, .bool false]) (by simp [results, Try.results52, go_sem]) rfl ⟨_, rfl, (RowGt.nil w1 w.heap.size).own (by simp), B1⟩
  · have HL := Lib.hid hL
    cases hM : circB p M
    · have HM := Lib.hid hM
      clear hj hL hM
      go_enter Try.func52, Try.ntmps52
      go_wp2_with fail
      refine (iLastZ _ L.length _ (by omega) _).mono ?_
      rintro e w' ⟨rfl, rfl⟩
      go_wp2_with fail
      refine (iLastZ _ M.length _ (by omega) _).mono ?_
      rintro e w' ⟨rfl, rfl⟩
      go_wp2_with fail
      rw [← HWJ.out]
      refine (iCircuitValid p _ L _ (Gats.below HG1.out HBJ.out)).mono ?_
      rintro e w1 ⟨he, hb1⟩
      rw [HL.out] at he
      subst he
      have B1 := HBJ.out.trans (hb1.mono HBJ.out.size)
      clear hb1
      go_wp2_with fail
      refine (iCircuitValid p _ M _ (Gats.below HG2.out B1)).mono ?_
      rintro e w2 ⟨he, hb2⟩
      rw [HM.out] at he
      subst he
      have B2 := B1.trans (hb2.mono B1.size)
      clear hb2
      go_wp2_with fail
      refine bodyPost_ret (v := .tuple #[.slice none 0 0, .bool false]) (by simp [results, Try.results52, go_sem]) rfl ⟨_, rfl, (RowGt.nil w2 w.heap.size).own (by simp), B2⟩
    · have HM := Lib.hid hM
      rw [hL, hM] at hj
      have hk : inB k 2 3 = false := by simpa using hj
      have hjb := Lib.hid (show joinsB ⟨k, (L.length : Int) - 1, (L.length : Int) + ((M.length : Int) - 1)⟩ = false by
        unfold inB at hk
        simp [joinsB]
        simp at hk
        omega)
      clear hj hL hM hk
      go_enter Try.func52, Try.ntmps52
      go_wp2_with fail
      refine (iLastZ _ L.length _ (by omega) _).mono ?_
      rintro e w' ⟨rfl, rfl⟩
      go_wp2_with fail
      refine (iLastZ _ M.length _ (by omega) _).mono ?_
      rintro e w' ⟨rfl, rfl⟩
      go_wp2_with fail
      rw [← HWJ.out]
      refine (iCircuitValid p _ L _ (Gats.below HG1.out HBJ.out)).mono ?_
      rintro e w1 ⟨he, hb1⟩
      rw [HL.out] at he
      subst he
      have B1 := HBJ.out.trans (hb1.mono HBJ.out.size)
      have q1 := hb1.size
      have J1 := GJ.below hb1 hlJ
      clear hb1
      go_wp2_with fail
      refine (iCircuitValid p _ M _ (Gats.below HG2.out B1)).mono ?_
      rintro e w2 ⟨he, hb2⟩
      rw [HM.out] at he
      subst he
      have B2 := B1.trans (hb2.mono B1.size)
      obtain ⟨j0, j1, j2⟩ := J1.below hb2 (by omega)
      clear hb2 J1
      go_wp2_with fail
      refine (iJoins_is false _ _ _ hjb.out _).mono ?_
      rintro e w3 ⟨rfl, hb3⟩
      have B3 := B2.trans (hb3.mono B2.size)
      clear hb3 j0 j1 j2
      go_wp2_with fail
      refine bodyPost_ret (v := .tuple #[.slice none 0 0, .bool false]) (by simp [results, Try.results52, go_sem]) rfl ⟨_, rfl, (RowGt.nil w3 w.heap.size).own (by simp), B3⟩
theorem iJoinCircuits (p : Int) (f d : Value) (L M : List Gt) (k : Int) (w : World) (h1 : Gats w f L) (h2 : Gats w d M) :
    Calls Try.prog 52 #[.int .i64 p, f, d, .int .i64 k] w (GivesGB (joinV p L M k) (joinB p L M k) w) := by
  cases hj : (circB p L && circB p M && inB k 2 3)
  · have e1 : joinB p L M k = false := by
      cases h : joinB p L M k
      · rfl
      · obtain ⟨a, b, c, _⟩ := joinB_iff.1 h
        rw [a, b] at hj
        unfold inB at hj
        simp at hj
        omega
    have e2 : joinV p L M k = [] := by simp [joinV, e1]
    rw [e1, e2]; exact iJoin_no p f d L M k w hj h1 h2
  · simp only [Bool.and_eq_true] at hj
    obtain ⟨⟨hL, hM⟩, hk⟩ := hj
    have hk' : k = 2 ∨ k = 3 := by unfold inB at hk; simp at hk; omega
    refine (iJoin_mid p f d L M k w hL hM hk' h1 h2).mono ?_
    rintro e w' ⟨v, rfl, hR, hb⟩
    rw [joinL_circ hL hM hk']
    cases hB : joinB p L M k
    · have e1 : madeV p (joinL L M k) v = .slice none 0 0 := by simp [madeV, joinL_circ hL hM hk', hB]
      have e2 : joinV p L M k = [] := by simp [joinV, hB]
      rw [e1, e2]
      exact ⟨_, rfl, (RowGt.nil w' w.heap.size).own (by simp), hb⟩
    · have e1 : madeV p (joinL L M k) v = v := by simp [madeV, joinL_circ hL hM hk', hB]
      have e2 : joinV p L M k = joinL L M k := by simp [joinV, hB]
      rw [e1, e2]
      have := (joinB_iff.1 hB).2.2.2
      exact ⟨_, rfl, hR.own (by rw [joinL_len]; omega), hb⟩
end Go.Proofs.Ytlidplmpglpkgaa
