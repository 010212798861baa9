/-
  Contracts of the program's DepthOf and FormalDegree. Conditions: what the slice holds is known.
-/
import Derived.Test.YtgbjchidnnmifaaFdg
import Derived.Deep.RegionHeld3
namespace Go.Proofs.Ytgbjchidnnmifaa
open Go.RowKit
/-- a block whose first sixty cells hold the numbers of a list, and 0 behind them -/
def ArrI (w : World) (g : Nat) (D : List Int) : Prop :=
  g < w.heap.size ∧ ∀ j : Nat, j < 60 → w.cell? ⟨g, j, none⟩ = some (.int .i64 (D.getD j 0)) ∧ w.frozen? ⟨g, j, none⟩ = false
theorem ArrI.below {w w' : World} {B g : Nat} {D : List Int} (h : ArrI w g D) (hb : Below B w w') (hg : g < B) : ArrI w' g D :=
  ⟨Nat.lt_of_lt_of_le h.1 hb.size, fun j hj => ⟨by rw [hb.cell (p := ⟨g, j, none⟩) hg]; exact (h.2 j hj).1, by rw [hb.frozen (p := ⟨g, j, none⟩) hg]; exact (h.2 j hj).2⟩⟩
theorem getD_snoc (D : List Int) (v : Int) (i : Nat) : (D ++ [v]).getD i 0 = if i = D.length then v else D.getD i 0 := by
  simp only [List.getD_eq_getElem?_getD]
  by_cases h : i < D.length
  · rw [List.getElem?_append_left h, if_neg (by omega)]
  · rw [List.getElem?_append_right (by omega)]
    by_cases e : i = D.length
    · rw [if_pos e, e]; simp
    · rw [if_neg e, List.getElem?_eq_none (by simp; omega), List.getElem?_eq_none (by omega)]
theorem ArrI.zero {w : World} {g : Nat} {D : List Int} (h : ArrI w g D) : ArrI w g (D ++ [0]) :=
  ⟨h.1, fun j hj => ⟨by rw [(h.2 j hj).1, getD_snoc]; split
                        · rename_i e; rw [List.getD_eq_getElem?_getD, List.getElem?_eq_none (by omega)]; rfl
                        · rfl, (h.2 j hj).2⟩⟩
theorem ArrI.set {w : World} {g k : Nat} {D : List Int} (h : ArrI w g D) (hl : D.length = k) (hk : k < 60) (v : Int) : ArrI (w.setCell ⟨g, k, none⟩ (.int .i64 v)) g (D ++ [v]) := by
  refine ⟨by simpa using h.1, fun j hj => ⟨?_, by rw [World.frozen?_setCell]; exact (h.2 j hj).2⟩⟩
  rw [getD_snoc]
  by_cases e : j = k
  · rw [if_pos (by omega), e]
    exact World.cell?_setCell_same _ _ _ (h.2 k hk).1
  · rw [if_neg (by omega), World.cell?_setCell_other _ _ _ _ (by simp <;> omega)]
    exact (h.2 j hj).1
theorem ArrI.new (w : World) (ty : TypeId) : ArrI (w.alloc (.cells (Array.replicate 60 (.int .i64 0)) ty)) w.heap.size [] := by
  refine ⟨by simp, fun j hj => ⟨?_, ?_⟩⟩
  · rw [World.cell?_alloc_new]; simp [hj]
  · rw [World.frozen?_alloc_new]
theorem addr_ne {b b' o o' : Nat} (h : b ≠ b' ∨ o ≠ o') : (⟨b, o, none⟩ : Addr) ≠ ⟨b', o', none⟩ := by
  intro e
  injection e with e1 e2
  omega
theorem iLast (a : Option Addr) (n cap m : Nat) (hn : n ≤ 1048576) (hm : (n : Int) - 1 = (m : Int)) (w : World) :
    Calls Try.prog 35 #[.slice a n cap] w fun e w' => e = .returned (.int .i64 m) ∧ w = w' := by
  have hw := IntWalk.i64_in ((n : Int) - 1) (by omega)
  rw [hm] at hw
  go_enter Try.func35, Try.ntmps35
  go_wp2
  go_ret
  exact ⟨rfl, rfl⟩
set_option maxRecDepth 100000 in
set_option maxHeartbeats 4000000 in
theorem iDep_some (p : Int) (L : List Gt) (hv : circB p L = true) (g off cap : Nat) (r : Int) (hr : (depL L L.length).getD (L.length - 1) 0 = r) (w : World) (hg : g < w.heap.size)
    (hc : ∀ j : Nat, j < L.length → GAt w g (off + j * 3) (L.getD j default)) :
    Calls Try.prog 13 #[.int .i64 p, .slice (some ⟨g, off, none⟩) L.length cap] w fun e w' => e = .returned (.int .i64 r) ∧ Below w.heap.size w w' := by
  obtain ⟨hp, hl1, hl2, hall⟩ := circB_iff.1 hv
  have HC := Lib.hid hc
  have HV := Lib.hid hv
  have HR := Lib.hid hr
  clear hr
  have HA := Lib.hid hall
  have hG : Gats w (.slice (some ⟨g, off, none⟩) L.length cap) L := ⟨by omega, _, _, rfl, .inr ⟨g, off, rfl, hg, hc⟩⟩
  have HG := Lib.hid hG
  clear hc hv hall hp hG
  go_enter Try.func13, Try.ntmps13
  go_wp2_with fail
  refine (iCircuitValid p _ L _ HG.out).mono ?_
  rintro e w1 ⟨he, hb1⟩
  rw [HV.out] at he
  subst he
  obtain ⟨G, hG⟩ : ∃ G, G = w1.heap.size := ⟨_, rfl⟩
  have hGw : w.heap.size ≤ G := by rw [hG]; exact hb1.size
  have A0 : ArrI (w1.alloc (.cells (Array.replicate 60 (.int .i64 0)) 57)) G [] := by rw [hG]; exact ArrI.new w1 _
  have B0 : Below w.heap.size w (w1.alloc (.cells (Array.replicate 60 (.int .i64 0)) 57)) := Below.alloc hb1 hb1.size _
  clear hb1
  go_wp2_with fail
  rw [← hG]
  go_loopw [14] (fun i wr => ∃ k : Nat, k ≤ L.length ∧ i = .int .i64 k ∧ ArrI wr G (depL L k) ∧ Below w.heap.size w wr) (fun i _ => L.length - (intOf i).toNat)
  case atStart => exact ⟨0, by omega, rfl, A0, B0⟩
  case round =>
    clear A0 B0 hG
    obtain ⟨k, hk, rfl, hR, hb⟩ := hrel
    by_cases hlt : k < L.length
    · have hltp : (k : Int) < (L.length : Int) := by omega
      have hk0 : (0 : Int) ≤ (k : Int) := by omega
      obtain ⟨a0, a1, a2⟩ := (HC.out k hlt).below hb hg
      have hx0 := HA.out k hlt
      obtain ⟨x, hx⟩ : ∃ x, x = L.getD k default := ⟨_, rfl⟩
      rw [← hx] at a0 a1 a2
      rw [← gat_mk hx] at hx0
      have hcs := gOK_cases hx0
      simp only at hcs
      have Hb := Lib.hid hb
      have hs := hb.size
      have hlen : (depL L k).length = k := depL_len L k
      obtain ⟨xk, xa, xb⟩ := x
      simp only at a0 a1 a2 hcs
      by_cases h2 : 2 ≤ xk
      · have hxk : xk = 2 ∨ xk = 3 := by omega
        obtain ⟨ja, rfl⟩ := Int.eq_ofNat_of_zero_le (show 0 ≤ xa by omega)
        obtain ⟨jb, rfl⟩ := Int.eq_ofNat_of_zero_le (show 0 ≤ xb by omega)
        have hja : ja < k := by omega
        have hjb : jb < k := by omega
        obtain ⟨da, hda⟩ : ∃ d, d = (depL L k).getD ja 0 := ⟨_, rfl⟩
        obtain ⟨db, hdb⟩ : ∃ d, d = (depL L k).getD jb 0 := ⟨_, rfl⟩
        have b1 := depL_bd L k ja
        have b2 := depL_bd L k jb
        rw [← hda] at b1
        rw [← hdb] at b2
        have HE := Lib.hid (show depL L (k + 1) = depL L k ++ [1 + max da db] by
          have e : gAt L k = ⟨xk, ja, jb⟩ := (gat_mk hx).symm
          simp only [depL, e, Int.toNat_natCast, ← hda, ← hdb]
          rw [if_pos (by rcases hxk with rfl | rfl <;> rfl)])
        have HJ := Lib.hid (show joinsB ⟨xk, ja, jb⟩ = true by rcases hxk with rfl | rfl <;> rfl)
        obtain ⟨m, hm⟩ : ∃ m, (if da < db then db else da) = m := ⟨_, rfl⟩
        have hmm : max da db = m := by rw [← hm]; split <;> omega
        have hm0 : 0 ≤ m ∧ m ≤ k := by rw [← hm]; split <;> omega
        rw [hmm] at HE
        go_wp2_with fail
        refine (iJoins_is true xk ja jb HJ.out _).mono ?_
        rintro e W ⟨rfl, hbW⟩
        have bW : Below wr.heap.size wr W := (Below.alloc (Below.refl _ _) (Nat.le_refl _) _ : Below wr.heap.size wr (wr.alloc (Obj.cells #[.int .i64 xk, .int .i64 ja, .int .i64 jb] 32))).trans (hbW.mono (by simp))
        have c1 := hbW.cell (p := ⟨wr.heap.size, 1, none⟩) (by simp)
        have c2 := hbW.cell (p := ⟨wr.heap.size, 2, none⟩) (by simp)
        simp [go_sem] at c1 c2
        have ht : wr.heap.size < W.heap.size := by have := hbW.size; simp at this; omega
        have A1 := hR.below bW hR.1
        have B1 := hb.trans (bW.mono hs)
        have hG1 := A1.1
        obtain ⟨d0, _⟩ := A1.2 ja (by omega)
        obtain ⟨d1, _⟩ := A1.2 jb (by omega)
        obtain ⟨dk, fk⟩ := A1.2 k (by omega)
        rw [← hda] at d0
        rw [← hdb] at d1
        have hGr := hR.1
        have hw1 : IntKind.i64.wrap (1 + m) = 1 + m := IntWalk.i64_in _ (by omega)
        have ja60 : (ja : Int) < 60 := by omega
        have jb60 : (jb : Int) < 60 := by omega
        have k60 : (k : Int) < 60 := by omega
        have ja0 : (0 : Int) ≤ ja := by omega
        have jb0 : (0 : Int) ≤ jb := by omega
        have HA1 := Lib.hid A1
        have HB1 := Lib.hid B1
        clear hx hR hb hx0 hcs hda hdb hxk hmm A1 B1 hbW bW a0 a1 a2
        go_wp2_with fail
        go_region_held3 (fun w' => w'.cell? ⟨wr.heap.size, 1, none⟩ = some (.int .i64 ja) ∧ w'.cell? ⟨wr.heap.size, 2, none⟩ = some (.int .i64 jb) ∧ w'.cell? ⟨G, ja, none⟩ = some (.int .i64 da) ∧ w'.cell? ⟨G, jb, none⟩ = some (.int .i64 db)) (first | (refine ⟨?_, ?_, ?_, ?_⟩ <;> (rw [World.cell?_drew, World.cell?_setCell_other _ _ _ _ (addr_ne (by omega))]; assumption)) | go_keep) (fail)
        have hR2 : ArrI (W.setCell ⟨G, k, none⟩ (.int .i64 (1 + m))).drew G (depL L (k + 1)) := by
          rw [HE.out]
          have h := HA1.out.set hlen (by omega) (1 + m)
          exact h.below (Below.drew (Below.refl _ _)) h.1
        have hb2 : Below w.heap.size w (W.setCell ⟨G, k, none⟩ (.int .i64 (1 + m))).drew := Below.drew (HB1.out.setCell hGw _)
        clear c1 c2 d0 d1 dk fk
        go_wp2_with fail
        go_roundw
        case rel => exact ⟨k + 1, by omega, by go_num, hR2, hb2⟩
        case measure => simp [intOf]; omega
      · have HE := Lib.hid (show depL L (k + 1) = depL L k ++ [0] by
          have : joinsB (gAt L k) = false := by rw [← gat_mk hx]; simp [joinsB]; omega
          simp [depL, this])
        have HJ := Lib.hid (show joinsB ⟨xk, xa, xb⟩ = false by simp [joinsB]; omega)
        clear hx hx0 hcs
        go_wp2_with fail
        refine (iJoins_is false xk xa xb HJ.out _).mono ?_
        rintro e W ⟨rfl, hbW⟩
        have bW : Below wr.heap.size wr W := (Below.alloc (Below.refl _ _) (Nat.le_refl _) _ : Below wr.heap.size wr (wr.alloc (Obj.cells #[.int .i64 xk, .int .i64 xa, .int .i64 xb] 32))).trans (hbW.mono (by simp))
        have hR2 : ArrI W G (depL L (k + 1)) := by rw [HE.out]; exact (hR.below bW hR.1).zero
        have hb2 := hb.trans (bW.mono hs)
        clear hbW bW hR hb a0 a1 a2
        go_wp2_with fail
        go_roundw
        case rel => exact ⟨k + 1, by omega, by go_num, hR2, hb2⟩
        case measure => simp [intOf]; omega
    · have hkl : k = L.length := by omega
      subst hkl
      obtain ⟨d0, _⟩ := hR.2 (L.length - 1) (by omega)
      rw [HR.out] at d0
      obtain ⟨n, hn⟩ : ∃ n, L.length = n + 1 := ⟨L.length - 1, by omega⟩
      rw [hn] at d0
      simp only [Nat.add_sub_cancel] at d0
      have hnn : (L.length : Int) - 1 = (n : Int) := by omega
      have hn1 : (n : Int) < 60 := by omega
      have hn0 : (0 : Int) ≤ n := by omega
      have HN := Lib.hid hnn
      clear hR hn hnn
      go_wp2_with (go_at_call 35; refine (iLast _ L.length _ n (by omega) HN.out _).mono ?_; rintro e w' ⟨rfl, rfl⟩)
      go_ret
      exact ⟨rfl, hb⟩
end Go.Proofs.Ytgbjchidnnmifaa
