/-
  Contracts of the program's made and JoinCircuits. Conditions: what the slices hold is known.
-/
import Derived.Test.YtgbjchidnnmifaaPutG
namespace Go.Proofs.Ytgbjchidnnmifaa
open Go.RowKit
theorem keepMak {W w1 : World} {G : Nat} {a b : Value} (hb : Below W.heap.size W w1) (hG : G < W.heap.size) (h : W.cell? ⟨G, 0, none⟩ = some a ∧ W.cell? ⟨G, 1, none⟩ = some b) :
    w1.cell? ⟨G, 0, none⟩ = some a ∧ w1.cell? ⟨G, 1, none⟩ = some b :=
  ⟨by rw [hb.cell (p := ⟨G, 0, none⟩) hG]; exact h.1, by rw [hb.cell (p := ⟨G, 1, none⟩) hG]; exact h.2⟩
/-- what 'made' hands back: the gates if they are a circuit, else nil -/
def madeV (p : Int) (L : List Gt) (v : Value) : Value := if circB p L = true then v else .slice none 0 0
set_option maxRecDepth 100000 in
set_option maxHeartbeats 8000000 in
theorem iMade (G : Nat) (p : Int) (v : Value) (L : List Gt) (w : World) (h : MakW w G p v) (hg : Gats w v L) :
    Calls Try.prog 43 #[.pointer (some ⟨G, 0, none⟩)] w fun e w' => e = .returned (.tuple #[madeV p L v, .bool (circB p L)]) ∧ Below w.heap.size w w' := by
  have c0 := h.c0
  have c1 := h.c1
  have hG := h.lt
  have HG := Lib.hid hg
  have HM := Lib.hid h
  rcases Bool.eq_false_or_eq_true (circB p L) with hv | hv
  · have HV := Lib.hid hv
    have hm : madeV p L v = v := by simp [madeV, hv]
    rw [hm, hv]
    clear hg h hv hm
    obtain ⟨nL, a, cap, rfl, _⟩ := HG.out
    go_enter Try.func43, Try.ntmps43
    go_wp2_with fail
    go_region_held3 (fun w' => w'.cell? ⟨G, 0, none⟩ = some (.slice a L.length cap) ∧ w'.cell? ⟨G, 1, none⟩ = some (.int .i64 p)) (first | exact keepMak hb1 (by simpa using hG) (by assumption) | go_keep)
      (first | (go_at_call 26; refine (iCircuitValid p _ L _ (Gats.below HG.out (by repeat (first | exact Below.refl _ _ | apply Below.drew)))).mono ?_; rintro e w1 ⟨he, hb1⟩; rw [HV.out] at he; subst he))
    all_goals
      have B1 : Below w.heap.size w w1 := (Below.drew (Below.refl _ _) : Below w.heap.size w w.drew).trans (by simpa using hb1)
      go_wp2_with fail
      refine bodyPost_ret (v := .tuple #[.slice a L.length cap, .bool true]) (by simp [results, Try.results43, go_sem]) rfl ⟨rfl, B1⟩
  · have HV := Lib.hid hv
    have hm : madeV p L v = .slice none 0 0 := by simp [madeV, hv]
    rw [hm, hv]
    clear hg h hv hm
    obtain ⟨nL, a, cap, rfl, _⟩ := HG.out
    go_enter Try.func43, Try.ntmps43
    go_wp2_with fail
    go_region_held3 (fun w' => w'.cell? ⟨G, 0, none⟩ = some (.slice a L.length cap) ∧ w'.cell? ⟨G, 1, none⟩ = some (.int .i64 p)) (first | exact keepMak hb1 (by simpa using hG) (by assumption) | go_keep)
      (first | (go_at_call 26; refine (iCircuitValid p _ L _ (Gats.below HG.out (by repeat (first | exact Below.refl _ _ | apply Below.drew)))).mono ?_; rintro e w1 ⟨he, hb1⟩; rw [HV.out] at he; subst he))
    all_goals
      have B1 : Below w.heap.size w w1 := (Below.drew (Below.refl _ _) : Below w.heap.size w w.drew).trans (by simpa using hb1)
      go_wp2_with fail
      refine bodyPost_ret (v := .tuple #[.slice none 0 0, .bool false]) (by simp [results, Try.results43, go_sem]) rfl ⟨rfl, B1⟩
theorem iLastZ (a : Option Addr) (n cap : Nat) (hn : n ≤ 1048576) (w : World) :
    Calls Try.prog 35 #[.slice a n cap] w fun e w' => e = .returned (.int .i64 ((n : Int) - 1)) ∧ w = w' := by
  have hw := IntWalk.i64_in ((n : Int) - 1) (by omega)
  go_enter Try.func35, Try.ntmps35
  go_wp2
  go_ret
  exact ⟨rfl, rfl⟩
theorem gOK_mono {q : Int} {x : Gt} {i j : Int} (h : gOK q x i = true) (hij : i ≤ j) : gOK q x j = true := by
  rcases gOK_cases h with h | h | h
  · simp [gOK, h, inB] <;> omega
  · simp [gOK, h, inB] <;> omega
  · rcases h with ⟨h1 | h1, h2⟩ <;> (simp [gOK, h1, inB]; omega)
theorem gOK_mov {q : Int} {x : Gt} {i : Int} {n : Nat} (h : gOK q x i = true) : gOK q (movG n x) (i + n) = true := by
  rcases gOK_cases h with h1 | h1 | h1
  · have : joinsB x = false := by simp [joinsB, h1]
    simp only [movG, this]
    exact gOK_mono h (by omega)
  · have : joinsB x = false := by simp [joinsB, h1]
    simp only [movG, this]
    exact gOK_mono h (by omega)
  · have : joinsB x = true := by rcases h1.1 with e | e <;> simp [joinsB, e]
    simp only [movG, this, if_true]
    rcases h1 with ⟨e | e, h2⟩ <;> (simp [gOK, e, inB]; omega)
theorem joinL_len (L M : List Gt) (k : Int) : (joinL L M k).length = L.length + M.length + 1 := by simp [joinL]; omega
theorem joinL_at {L M : List Gt} {k : Int} (j : Nat) (hj : j < L.length + M.length + 1) :
    gAt (joinL L M k) j = if j < L.length then gAt L j else if j < L.length + M.length then movG L.length (gAt M (j - L.length)) else ⟨k, L.length - 1, L.length + M.length - 1⟩ := by
  unfold gAt joinL
  simp only [List.getD_eq_getElem?_getD]
  by_cases h1 : j < L.length
  · rw [if_pos h1, List.getElem?_append_left (by simp; omega), List.getElem?_append_left h1]
  · rw [if_neg h1]
    by_cases h2 : j < L.length + M.length
    · rw [if_pos h2, List.getElem?_append_left (by simp; omega), List.getElem?_append_right (by omega)]
      have h3 : j - L.length < M.length := by omega
      simp [h3]
    · rw [if_neg h2, List.getElem?_append_right (by simp; omega)]
      have : j - (L ++ M.map (movG L.length)).length = 0 := by simp; omega
      rw [this]
      simp
theorem joinL_ok {p k : Int} {L M : List Gt} (h : joinB p L M k = true) : circB p (joinL L M k) = true := by
  obtain ⟨hL, hM, hk, hlen⟩ := joinB_iff.1 h
  obtain ⟨hp, l1, _, hl⟩ := circB_iff.1 hL
  obtain ⟨_, m1, _, hm⟩ := circB_iff.1 hM
  refine circB_iff.2 ⟨hp, by rw [joinL_len]; omega, by rw [joinL_len]; omega, fun j hj => ?_⟩
  rw [joinL_len] at hj
  rw [joinL_at j hj]
  by_cases h1 : j < L.length
  · rw [if_pos h1]; exact hl j h1
  · rw [if_neg h1]
    by_cases h2 : j < L.length + M.length
    · rw [if_pos h2]
      have := gOK_mov (n := L.length) (hm (j - L.length) (by omega))
      have e : (((j - L.length : Nat) : Int) + (L.length : Nat)) = (j : Int) := by omega
      rw [e] at this
      exact this
    · rw [if_neg h2]
      have : j = L.length + M.length := by omega
      subst this
      rcases hk with rfl | rfl <;> (simp [gOK, inB]; omega)
theorem joinL_circ {p k : Int} {L M : List Gt} (hL : circB p L = true) (hM : circB p M = true) (hk : k = 2 ∨ k = 3) : circB p (joinL L M k) = joinB p L M k := by
  cases h : joinB p L M k
  · refine circB_long ?_
    rw [joinL_len]
    have : ¬ (L.length + M.length < 60) := fun hl => by
      rw [joinB_iff.2 ⟨hL, hM, hk, hl⟩] at h; cases h
    omega
  · exact joinL_ok h
theorem take_snocI {L : List Gt} {k : Nat} (h : k < L.length) : L.take (k + 1) = L.take k ++ [L.getD k default] := by
  rw [List.take_succ_eq_append_getElem h]
  simp [List.getD_eq_getElem?_getD, h]
set_option maxRecDepth 100000 in
set_option maxHeartbeats 8000000 in
theorem iJoin_mid (p : Int) (f d : Value) (L M : List Gt) (k : Int) (w : World) (hL : circB p L = true) (hM : circB p M = true) (hk : k = 2 ∨ k = 3) (h1 : Gats w f L) (h2 : Gats w d M) :
    Calls Try.prog 19 #[.int .i64 p, f, d, .int .i64 k] w fun e w' => ∃ v, e = .returned (.tuple #[madeV p (joinL L M k) v, .bool (circB p (joinL L M k))]) ∧ RowGt w' w.heap.size v (joinL L M k) ∧ Below w.heap.size w w' := by
  obtain ⟨hp, l1, l2, hAL⟩ := circB_iff.1 hL
  obtain ⟨_, m1, m2, hAM⟩ := circB_iff.1 hM
  obtain ⟨p0, p1⟩ := isP_bd hp
  clear hp
  obtain ⟨g1, o1, c1, rfl, hg1, hc1⟩ := gats_some h1 hL
  obtain ⟨g2, o2, c2, rfl, hg2, hc2⟩ := gats_some h2 hM
  have HC1 := Lib.hid hc1
  have HC2 := Lib.hid hc2
  have HG1 := Lib.hid h1
  have HG2 := Lib.hid h2
  have HL := Lib.hid hL
  have HM := Lib.hid hM
  have HAM := Lib.hid hAM
  have hjb := Lib.hid (show joinsB ⟨k, (L.length : Int) - 1, (L.length : Int) + ((M.length : Int) - 1)⟩ = true by rcases hk with rfl | rfl <;> rfl)
  have hwl : IntKind.i64.wrap ((L.length : Int) + ((M.length : Int) - 1)) = (L.length : Int) + ((M.length : Int) - 1) := IntWalk.i64_in _ (by omega)
  obtain ⟨WJ, hWJ⟩ : ∃ W, W = w.alloc (Obj.cells #[.int .i64 k, .int .i64 ((L.length : Int) - 1), .int .i64 ((L.length : Int) + ((M.length : Int) - 1))] 32) := ⟨_, rfl⟩
  have BJ : Below w.heap.size w WJ := by rw [hWJ]; exact (by repeat (first | exact Below.refl _ _ | apply Below.drew | apply below_drewN | (refine Below.alloc ?_ (by first | omega | (simp <;> omega)) _)))
  have hsJ : WJ.heap.size = w.heap.size + 1 := by rw [hWJ]; simp
  have GJ : GAt WJ w.heap.size 0 ⟨k, (L.length : Int) - 1, (L.length : Int) + ((M.length : Int) - 1)⟩ := by rw [hWJ]; refine ⟨?_, ?_, ?_⟩ <;> simp [go_sem]
  have HWJ := Lib.hid hWJ
  clear h1 h2 hc1 hc2 hL hM hAM hAL hk hWJ
  go_enter Try.func19, Try.ntmps19
  go_wp2_with fail
  refine (iLastZ _ L.length _ (by omega) _).mono ?_
  rintro e w' ⟨rfl, rfl⟩
  go_wp2_with fail
  refine (iLastZ _ M.length _ (by omega) _).mono ?_
  rintro e w' ⟨rfl, rfl⟩
  go_wp2_with fail
  rw [← HWJ.out]
  clear HWJ
  refine (iCircuitValid p _ L _ (HG1.out.below BJ)).mono ?_
  rintro e w1 ⟨he, hb1⟩
  rw [HL.out] at he
  subst he
  go_wp2_with fail
  refine (iCircuitValid p _ M _ ((HG2.out.below BJ).below hb1)).mono ?_
  rintro e w2 ⟨he, hb2⟩
  rw [HM.out] at he
  subst he
  have B2 : Below WJ.heap.size WJ w2 := hb1.trans (hb2.mono hb1.size)
  obtain ⟨j0, j1, j2⟩ := GJ.below B2 (by omega)
  clear hb1 hb2
  go_wp2_with fail
  refine (iJoins_is true _ _ _ hjb.out _).mono ?_
  rintro e w3 ⟨rfl, hb3⟩
  have B3 : Below WJ.heap.size WJ w3 := B2.trans (hb3.mono B2.size)
  have hs3 := B3.size
  obtain ⟨G, hG⟩ : ∃ G, G = w3.heap.size := ⟨_, rfl⟩
  have hJG : w.heap.size + 1 ≤ G := by omega
  have M0 : MakW (w3.alloc (Obj.cells #[.slice none 0 0, .int .i64 p] 66)) G p (.slice none 0 0) := by
    rw [hG]; refine ⟨?_, ?_, ?_, by simp⟩ <;> simp [go_sem]
  have B4 : Below WJ.heap.size WJ (w3.alloc (Obj.cells #[.slice none 0 0, .int .i64 p] 66)) := Below.alloc B3 hs3 _
  have R0 := RowGt.nil (w3.alloc (Obj.cells #[.slice none 0 0, .int .i64 p] 66)) (G + 1)
  clear hb3 j0 j1 j2 B2 B3
  go_wp2_with fail
  rw [← hG]
  rw [hsJ] at B4 hs3
  have HBJ := Lib.hid BJ
  clear hG BJ
  go_loopw [44] (fun i wr => ∃ n : Nat, n ≤ L.length ∧ i = .int .i64 n ∧ (∃ v, MakW wr G p v ∧ RowGt wr (G + 1) v (L.take n)) ∧ Below (w.heap.size + 1) WJ wr) (fun i _ => L.length - (intOf i).toNat)
  case atStart => exact ⟨0, by omega, rfl, ⟨_, M0, by simpa using R0⟩, B4⟩
  case round =>
    clear M0 R0 B4
    obtain ⟨n, hn, rfl, ⟨v, hM, hR⟩, hb⟩ := hrel
    by_cases hlt : n < L.length
    · have hltp : (n : Int) < (L.length : Int) := by omega
      have hn0 : (0 : Int) ≤ (n : Int) := by omega
      obtain ⟨a0, a1, a2⟩ := ((HC1.out n hlt).below HBJ.out hg1).below hb (by omega)
      obtain ⟨x, hx⟩ : ∃ x, x = L.getD n default := ⟨_, rfl⟩
      rw [← hx] at a0 a1 a2
      have HE := Lib.hid (take_snocI hlt)
      rw [← hx] at HE
      have hlen : (L.take n).length = n := by simp; omega
      have HPut := Lib.hid (fun w' (h : Below wr.heap.size wr w') => iPutG (w.heap.size + 1) G p v (L.take n) x w' (by omega) hJG (hM.below h) (hR.below h))
      have Hb := Lib.hid hb
      have hs := hb.size
      rw [hlen] at HPut
      clear hx hM hR hb
      go_wp2_with fail
      refine (HPut.out _ (by repeat (first | exact Below.refl _ _ | apply Below.drew | apply below_drewN | (refine Below.alloc ?_ (by first | omega | (simp <;> omega)) _)))).mono ?_
      rintro e w5 ⟨v5, rfl, hR5, hM5, hb5⟩
      have B5 : Below (w.heap.size + 1) WJ w5 := (Below.alloc Hb.out (by omega) _).trans hb5
      rw [← HE.out] at hR5
      clear hb5
      go_wp2_with fail
      go_roundw
      case rel => exact ⟨n + 1, by omega, by go_num, ⟨v5, hM5, hR5⟩, B5⟩
      case measure => simp [intOf]; omega
    · have hnl : n = L.length := by omega
      subst hnl
      rw [List.take_length] at hR
      go_wp2_with fail
      go_loopw [53] (fun i wr => ∃ n : Nat, n ≤ M.length ∧ i = .int .i64 n ∧ (∃ v, MakW wr G p v ∧ RowGt wr (G + 1) v (L ++ (M.map (movG L.length)).take n)) ∧ Below (w.heap.size + 1) WJ wr) (fun i _ => M.length - (intOf i).toNat)
      case atStart => exact ⟨0, by omega, rfl, ⟨_, hM, by simpa using hR⟩, hb⟩
      case round =>
        clear hM hR hb
        obtain ⟨n, hn, rfl, ⟨v, hM, hR⟩, hb⟩ := hrel
        by_cases hlt : n < M.length
        · have hltp : (n : Int) < (M.length : Int) := by omega
          have hn0 : (0 : Int) ≤ (n : Int) := by omega
          obtain ⟨a0, a1, a2⟩ := ((HC2.out n hlt).below HBJ.out hg2).below hb (by omega)
          have hx0 := HAM.out n hlt
          obtain ⟨x, hx⟩ : ∃ x, x = M.getD n default := ⟨_, rfl⟩
          rw [← hx] at a0 a1 a2
          rw [← gat_mk hx] at hx0
          have hcs := gOK_cases hx0
          simp only at hcs
          have HE := Lib.hid (take_snoc hlt (movG L.length))
          rw [← hx] at HE
          have hlen : (L ++ (M.map (movG L.length)).take n).length = L.length + n := by simp; omega
          have HPut := Lib.hid (fun w' (h : Below wr.heap.size wr w') => iPutG (w.heap.size + 1) G p v (L ++ (M.map (movG L.length)).take n) (movG L.length x) w' (by omega) hJG (hM.below h) (hR.below h))
          have Hmv := Lib.hid (fun w' => iMoved x.k x.a x.b L.length w' (by omega) (by omega) (by omega))
          have Hb := Lib.hid hb
          have hs := hb.size
          rw [hlen] at HPut
          clear hx hM hR hb hx0 hcs
          go_wp2_with fail
          refine (Hmv.out _).mono ?_
          rintro e w5 ⟨rfl, hb5⟩
          have B5 : Below wr.heap.size wr w5 := ((by repeat (first | exact Below.refl _ _ | apply Below.drew | apply below_drewN | (refine Below.alloc ?_ (by first | omega | (simp <;> omega)) _))) : Below wr.heap.size wr (wr.alloc (Obj.cells #[.int .i64 x.k, .int .i64 x.a, .int .i64 x.b] 32))).trans (hb5.mono (by simp))
          clear hb5
          go_wp2_with fail
          refine (HPut.out _ B5).mono ?_
          rintro e w6 ⟨v6, rfl, hR6, hM6, hb6⟩
          have B6 : Below (w.heap.size + 1) WJ w6 := (Hb.out.trans (B5.mono (by omega))).trans hb6
          rw [List.append_assoc, ← HE.out] at hR6
          clear hb6 B5
          go_wp2_with fail
          go_roundw
          case rel => exact ⟨n + 1, by omega, by go_num, ⟨v6, hM6, hR6⟩, B6⟩
          case measure => simp [intOf]; omega
        · have hnl : n = M.length := by omega
          subst hnl
          have hT : (M.map (movG L.length)).take M.length = M.map (movG L.length) := List.take_of_length_le (by simp)
          rw [hT] at hR
          obtain ⟨a0, a1, a2⟩ := GJ.below hb (by omega)
          have hlen : (L ++ M.map (movG L.length)).length = L.length + M.length := by simp
          have HPut := Lib.hid (fun w' (h : Below wr.heap.size wr w') => iPutG (w.heap.size + 1) G p v (L ++ M.map (movG L.length)) ⟨k, (L.length : Int) - 1, (L.length : Int) + ((M.length : Int) - 1)⟩ w' (by omega) hJG (hM.below h) (hR.below h))
          have Hb := Lib.hid hb
          have hs := hb.size
          rw [hlen] at HPut
          clear hM hR hb
          go_wp2_with fail
          refine (HPut.out _ (by repeat (first | exact Below.refl _ _ | apply Below.drew | apply below_drewN | (refine Below.alloc ?_ (by first | omega | (simp <;> omega)) _)))).mono ?_
          rintro e w6 ⟨v6, rfl, hR6, hM6, hb6⟩
          have B6 : Below (w.heap.size + 1) WJ w6 := Hb.out.trans hb6
          have eJ : joinL L M k = L ++ M.map (movG L.length) ++ [⟨k, (L.length : Int) - 1, (L.length : Int) + ((M.length : Int) - 1)⟩] := by
            unfold joinL
            rw [show (L.length : Int) + ((M.length : Int) - 1) = (L.length : Int) + M.length - 1 by omega]
          rw [← eJ] at hR6
          have hO := (hR6.own (by rw [joinL_len]; omega)).gats
          have HR6 := Lib.hid hR6
          have B7 : Below w.heap.size w w6 := HBJ.out.trans (B6.mono (by omega))
          clear hb6 B6 eJ hR6
          go_wp2_with fail
          refine (iMade G p v6 (joinL L M k) _ hM6 hO).mono ?_
          rintro e w7 ⟨rfl, hb7⟩
          have B8 := B7.trans (hb7.mono B7.size)
          have R8 := HR6.out.below hb7
          clear hO hM6 hb7 B7
          go_wp2_with fail
          refine bodyPost_ret (v := .tuple #[madeV p (joinL L M k) v6, .bool (circB p (joinL L M k))]) (by simp [results, Try.results19, go_sem]) rfl ⟨v6, rfl, ?_, B8⟩
          exact R8.mono (by omega)
set_option maxRecDepth 100000 in
set_option maxHeartbeats 4000000 in
theorem iJoin_no (p : Int) (f d : Value) (L M : List Gt) (k : Int) (w : World) (hj : (circB p L && circB p M && inB k 2 3) = false) (h1 : Gats w f L) (h2 : Gats w d M) :
    Calls Try.prog 19 #[.int .i64 p, f, d, .int .i64 k] w (GivesGB [] false w) := by
  obtain ⟨nL, aL, cL, rfl, _⟩ := h1
  obtain ⟨nM, aM, cM, rfl, _⟩ := h2
  have HG1 := Lib.hid (⟨nL, aL, cL, rfl, by assumption⟩ : Gats w (.slice aL L.length cL) L)
  have HG2 := Lib.hid (⟨nM, aM, cM, rfl, by assumption⟩ : Gats w (.slice aM M.length cM) M)
  have hwl : IntKind.i64.wrap ((L.length : Int) + ((M.length : Int) - 1)) = (L.length : Int) + ((M.length : Int) - 1) := IntWalk.i64_in _ (by omega)
  obtain ⟨WJ, hWJ⟩ : ∃ W, W = w.alloc (Obj.cells #[.int .i64 k, .int .i64 ((L.length : Int) - 1), .int .i64 ((L.length : Int) + ((M.length : Int) - 1))] 32) := ⟨_, rfl⟩
  have BJ : Below w.heap.size w WJ := by rw [hWJ]; exact (by repeat (first | exact Below.refl _ _ | apply Below.drew | apply below_drewN | (refine Below.alloc ?_ (by first | omega | (simp <;> omega)) _)))
  have GJ : GAt WJ w.heap.size 0 ⟨k, (L.length : Int) - 1, (L.length : Int) + ((M.length : Int) - 1)⟩ := by rw [hWJ]; refine ⟨?_, ?_, ?_⟩ <;> simp [go_sem]
  have hlJ : w.heap.size < WJ.heap.size := by rw [hWJ]; simp
  have HWJ := Lib.hid hWJ
  have HBJ := Lib.hid BJ
  clear hWJ BJ
  cases hL : circB p L
  · have HL := Lib.hid hL
    clear hj hL
    go_enter Try.func19, Try.ntmps19
    go_wp2_with fail
    refine (iLastZ _ L.length _ (by omega) _).mono ?_
    rintro e w' ⟨rfl, rfl⟩
    go_wp2_with fail
    refine (iLastZ _ M.length _ (by omega) _).mono ?_
    rintro e w' ⟨rfl, rfl⟩
    go_wp2_with fail
    rw [← HWJ.out]
    refine (iCircuitValid p _ L _ (Gats.below HG1.out HBJ.out)).mono ?_
    rintro e w1 ⟨he, hb1⟩
    rw [HL.out] at he
    subst he
    have B1 := HBJ.out.trans (hb1.mono HBJ.out.size)
    clear hb1
    go_wp2_with fail
    refine bodyPost_ret (v := .tuple #[.slice none 0 0, .bool false]) (by simp [results, Try.results19, go_sem]) rfl ⟨_, rfl, (RowGt.nil w1 w.heap.size).own (by simp), B1⟩
  · have HL := Lib.hid hL
    cases hM : circB p M
    · have HM := Lib.hid hM
      clear hj hL hM
      go_enter Try.func19, Try.ntmps19
      go_wp2_with fail
      refine (iLastZ _ L.length _ (by omega) _).mono ?_
      rintro e w' ⟨rfl, rfl⟩
      go_wp2_with fail
      refine (iLastZ _ M.length _ (by omega) _).mono ?_
      rintro e w' ⟨rfl, rfl⟩
      go_wp2_with fail
      rw [← HWJ.out]
      refine (iCircuitValid p _ L _ (Gats.below HG1.out HBJ.out)).mono ?_
      rintro e w1 ⟨he, hb1⟩
      rw [HL.out] at he
      subst he
      have B1 := HBJ.out.trans (hb1.mono HBJ.out.size)
      clear hb1
      go_wp2_with fail
      refine (iCircuitValid p _ M _ (Gats.below HG2.out B1)).mono ?_
      rintro e w2 ⟨he, hb2⟩
      rw [HM.out] at he
      subst he
      have B2 := B1.trans (hb2.mono B1.size)
      clear hb2
      go_wp2_with fail
      refine bodyPost_ret (v := .tuple #[.slice none 0 0, .bool false]) (by simp [results, Try.results19, go_sem]) rfl ⟨_, rfl, (RowGt.nil w2 w.heap.size).own (by simp), B2⟩
    · have HM := Lib.hid hM
      rw [hL, hM] at hj
      have hk : inB k 2 3 = false := by simpa using hj
      have hjb := Lib.hid (show joinsB ⟨k, (L.length : Int) - 1, (L.length : Int) + ((M.length : Int) - 1)⟩ = false by
        unfold inB at hk
        simp [joinsB]
        simp at hk
        omega)
      clear hj hL hM hk
      go_enter Try.func19, Try.ntmps19
      go_wp2_with fail
      refine (iLastZ _ L.length _ (by omega) _).mono ?_
      rintro e w' ⟨rfl, rfl⟩
      go_wp2_with fail
      refine (iLastZ _ M.length _ (by omega) _).mono ?_
      rintro e w' ⟨rfl, rfl⟩
      go_wp2_with fail
      rw [← HWJ.out]
      refine (iCircuitValid p _ L _ (Gats.below HG1.out HBJ.out)).mono ?_
      rintro e w1 ⟨he, hb1⟩
      rw [HL.out] at he
      subst he
      have B1 := HBJ.out.trans (hb1.mono HBJ.out.size)
      have q1 := hb1.size
      have J1 := GJ.below hb1 hlJ
      clear hb1
      go_wp2_with fail
      refine (iCircuitValid p _ M _ (Gats.below HG2.out B1)).mono ?_
      rintro e w2 ⟨he, hb2⟩
      rw [HM.out] at he
      subst he
      have B2 := B1.trans (hb2.mono B1.size)
      obtain ⟨j0, j1, j2⟩ := J1.below hb2 (by omega)
      clear hb2 J1
      go_wp2_with fail
      refine (iJoins_is false _ _ _ hjb.out _).mono ?_
      rintro e w3 ⟨rfl, hb3⟩
      have B3 := B2.trans (hb3.mono B2.size)
      clear hb3 j0 j1 j2
      go_wp2_with fail
      refine bodyPost_ret (v := .tuple #[.slice none 0 0, .bool false]) (by simp [results, Try.results19, go_sem]) rfl ⟨_, rfl, (RowGt.nil w3 w.heap.size).own (by simp), B3⟩
theorem iJoinCircuits (p : Int) (f d : Value) (L M : List Gt) (k : Int) (w : World) (h1 : Gats w f L) (h2 : Gats w d M) :
    Calls Try.prog 19 #[.int .i64 p, f, d, .int .i64 k] w (GivesGB (joinV p L M k) (joinB p L M k) w) := by
  cases hj : (circB p L && circB p M && inB k 2 3)
  · have e1 : joinB p L M k = false := by
      cases h : joinB p L M k
      · rfl
      · obtain ⟨a, b, c, _⟩ := joinB_iff.1 h
        rw [a, b] at hj
        unfold inB at hj
        simp at hj
        omega
    have e2 : joinV p L M k = [] := by simp [joinV, e1]
    rw [e1, e2]; exact iJoin_no p f d L M k w hj h1 h2
  · simp only [Bool.and_eq_true] at hj
    obtain ⟨⟨hL, hM⟩, hk⟩ := hj
    have hk' : k = 2 ∨ k = 3 := by unfold inB at hk; simp at hk; omega
    refine (iJoin_mid p f d L M k w hL hM hk' h1 h2).mono ?_
    rintro e w' ⟨v, rfl, hR, hb⟩
    rw [joinL_circ hL hM hk']
    cases hB : joinB p L M k
    · have e1 : madeV p (joinL L M k) v = .slice none 0 0 := by simp [madeV, joinL_circ hL hM hk', hB]
      have e2 : joinV p L M k = [] := by simp [joinV, hB]
      rw [e1, e2]
      exact ⟨_, rfl, (RowGt.nil w' w.heap.size).own (by simp), hb⟩
    · have e1 : madeV p (joinL L M k) v = v := by simp [madeV, joinL_circ hL hM hk', hB]
      have e2 : joinV p L M k = joinL L M k := by simp [joinV, hB]
      rw [e1, e2]
      have := (joinB_iff.1 hB).2.2.2
      exact ⟨_, rfl, hR.own (by rw [joinL_len]; omega), hb⟩
end Go.Proofs.Ytgbjchidnnmifaa
