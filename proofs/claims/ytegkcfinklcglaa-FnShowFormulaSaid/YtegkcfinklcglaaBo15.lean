/-
  Contracts of the program's FormalDegree, and of both functions of both for any list of gates. Conditions: what the slice holds is known.
  Contracts of SpreadSize, of the model and of the program. Conditions: what the slice holds is known.
  Contracts of the model's l3Moved and JoinCircuits. Conditions: what the slices hold is known.
-/
import Derived.Test.YtegkcfinklcglaaBo14
import Derived.Test.YtegkcfinklcglaaBo10
namespace Go.Proofs.Ytegkcfinklcglaa
open Go.RowKit
set_option maxRecDepth 100000 in
set_option maxHeartbeats 4000000 in
theorem iFdg_some (p : Int) (L : List Gt) (hv : circB p L = true) (g off cap : Nat) (r : Int) (hr : (degL L L.length).getD (L.length - 1) 0 = r) (w : World) (hg : g < w.heap.size)
    (hc : ∀ j : Nat, j < L.length → GAt w g (off + j * 3) (L.getD j default)) :
    Calls Try.prog 52 #[.int .i64 p, .slice (some ⟨g, off, none⟩) L.length cap] w fun e w' => e = .returned (.int .i64 r) ∧ Below w.heap.size w w' := by
  obtain ⟨hp, hl1, hl2, hall⟩ := circB_iff.1 hv
  have HC := Lib.hid hc
  have HV := Lib.hid hv
  have HR := Lib.hid hr
  clear hr
  have HA := Lib.hid hall
  have hG : Gats w (.slice (some ⟨g, off, none⟩) L.length cap) L := ⟨by omega, _, _, rfl, .inr ⟨g, off, rfl, hg, hc⟩⟩
  have HG := Lib.hid hG
  clear hc hv hall hp hG
  go_enter Try.func52, Try.ntmps52
  go_wp2_with fail
  refine (iCircuitValid p _ L _ HG.out).mono ?_
  rintro e w1 ⟨he, hb1⟩
  rw [HV.out] at he
  subst he
  obtain ⟨G, hG⟩ : ∃ G, G = w1.heap.size := ⟨_, rfl⟩
  have hGw : w.heap.size ≤ G := by rw [hG]; exact hb1.size
  have A0 : ArrI (w1.alloc (.cells (Array.replicate 60 (.int .i64 0)) 133)) G [] := by rw [hG]; exact ArrI.new w1 _
  have B0 : Below w.heap.size w (w1.alloc (.cells (Array.replicate 60 (.int .i64 0)) 133)) := Below.alloc hb1 hb1.size _
  clear hb1
  go_wp2_with fail
  rw [← hG]
  go_loopw [14] (fun i wr => ∃ k : Nat, k ≤ L.length ∧ i = .int .i64 k ∧ ArrI wr G (degL L k) ∧ Below w.heap.size w wr) (fun i _ => L.length - (intOf i).toNat)
  case atStart => exact ⟨0, by omega, rfl, A0, B0⟩
  case round =>
    clear A0 B0 hG
    obtain ⟨k, hk, rfl, hR, hb⟩ := hrel
    by_cases hlt : k < L.length
    · have hltp : (k : Int) < (L.length : Int) := by omega
      have hk0 : (0 : Int) ≤ (k : Int) := by omega
      obtain ⟨a0, a1, a2⟩ := (HC.out k hlt).below hb hg
      have hx0 := HA.out k hlt
      obtain ⟨x, hx⟩ : ∃ x, x = L.getD k default := ⟨_, rfl⟩
      rw [← hx] at a0 a1 a2
      rw [← gat_mk hx] at hx0
      have hcs := gOK_cases hx0
      simp only at hcs
      have Hb := Lib.hid hb
      have hs := hb.size
      have hlen : (degL L k).length = k := degL_len L k
      obtain ⟨xk, xa, xb⟩ := x
      simp only at a0 a1 a2 hcs
      by_cases hk2 : xk = 2
      · subst hk2
        obtain ⟨ja, rfl⟩ := Int.eq_ofNat_of_zero_le (show 0 ≤ xa by omega)
        obtain ⟨jb, rfl⟩ := Int.eq_ofNat_of_zero_le (show 0 ≤ xb by omega)
        have hja : ja < k := by omega
        have hjb : jb < k := by omega
        obtain ⟨da, hda⟩ : ∃ d, d = (degL L k).getD ja 0 := ⟨_, rfl⟩
        obtain ⟨db, hdb⟩ : ∃ d, d = (degL L k).getD jb 0 := ⟨_, rfl⟩
        have b1 := degL_bd L k ja
        have b2 := degL_bd L k jb
        rw [← hda] at b1
        rw [← hdb] at b2
        obtain ⟨m, hm⟩ : ∃ m, (if da < db then db else da) = m := ⟨_, rfl⟩
        have hmm : max da db = m := by rw [← hm]; split <;> omega
        have hm0 : 0 ≤ m ∧ m ≤ 1000 := by rw [← hm]; split <;> omega
        have HE := Lib.hid (show degL L (k + 1) = degL L k ++ [m] by
          have e : gAt L k = ⟨2, ja, jb⟩ := (gat_mk hx).symm
          rw [← hmm, hda, hdb]
          simp [degL, e])
        obtain ⟨W, hW⟩ : ∃ W, W = wr.alloc (Obj.cells #[.int .i64 2, .int .i64 ja, .int .i64 jb] 75) := ⟨_, rfl⟩
        have bW : Below wr.heap.size wr W := by rw [hW]; exact Below.alloc (Below.refl _ _) (Nat.le_refl _) _
        have c1 : W.cell? ⟨wr.heap.size, 1, none⟩ = some (.int .i64 ja) := by rw [hW]; simp [go_sem]
        have c2 : W.cell? ⟨wr.heap.size, 2, none⟩ = some (.int .i64 jb) := by rw [hW]; simp [go_sem]
        have ht : wr.heap.size < W.heap.size := by rw [hW]; simp
        have A1 := hR.below bW hR.1
        have B1 := hb.trans (bW.mono hs)
        have hG1 := A1.1
        obtain ⟨d0, _⟩ := A1.2 ja (by omega)
        obtain ⟨d1, _⟩ := A1.2 jb (by omega)
        obtain ⟨dk, fk⟩ := A1.2 k (by omega)
        rw [← hda] at d0
        rw [← hdb] at d1
        have hGr := hR.1
        have ja60 : (ja : Int) < 60 := by omega
        have jb60 : (jb : Int) < 60 := by omega
        have k60 : (k : Int) < 60 := by omega
        have ja0 : (0 : Int) ≤ ja := by omega
        have jb0 : (0 : Int) ≤ jb := by omega
        have HA1 := Lib.hid A1
        have HB1 := Lib.hid B1
        have HW := Lib.hid hW
        clear hx hR hb hx0 hcs hda hdb hmm A1 B1 bW hW
        go_wp2_with fail
        rw [← HW.out]
        clear HW a0 a1 a2
        go_region_held3 (fun w' => w'.cell? ⟨wr.heap.size, 1, none⟩ = some (.int .i64 ja) ∧ w'.cell? ⟨wr.heap.size, 2, none⟩ = some (.int .i64 jb) ∧ w'.cell? ⟨G, ja, none⟩ = some (.int .i64 da) ∧ w'.cell? ⟨G, jb, none⟩ = some (.int .i64 db)) (first | (refine ⟨?_, ?_, ?_, ?_⟩ <;> (rw [World.cell?_drew, World.cell?_setCell_other _ _ _ _ (addr_ne (by omega))]; assumption)) | go_keep) (fail)
        have hR2 : ArrI (W.setCell ⟨G, k, none⟩ (.int .i64 m)).drew G (degL L (k + 1)) := by
          rw [HE.out]
          have h := HA1.out.set hlen (by omega) m
          exact h.below (Below.drew (Below.refl _ _)) h.1
        have hb2 : Below w.heap.size w (W.setCell ⟨G, k, none⟩ (.int .i64 m)).drew := Below.drew (HB1.out.setCell hGw _)
        clear c1 c2 d0 d1 dk fk
        go_wp2_with fail
        go_roundw
        case rel => exact ⟨k + 1, by omega, by go_num, hR2, hb2⟩
        case measure => simp [intOf]; omega
      by_cases hk3 : xk = 3
      · subst hk3
        obtain ⟨ja, rfl⟩ := Int.eq_ofNat_of_zero_le (show 0 ≤ xa by omega)
        obtain ⟨jb, rfl⟩ := Int.eq_ofNat_of_zero_le (show 0 ≤ xb by omega)
        have hja : ja < k := by omega
        have hjb : jb < k := by omega
        obtain ⟨da, hda⟩ : ∃ d, d = (degL L k).getD ja 0 := ⟨_, rfl⟩
        obtain ⟨db, hdb⟩ : ∃ d, d = (degL L k).getD jb 0 := ⟨_, rfl⟩
        have b1 := degL_bd L k ja
        have b2 := degL_bd L k jb
        rw [← hda] at b1
        rw [← hdb] at b2
        by_cases h7 : da + db < 1000
        · have hmm : min (da + db) 1000 = da + db := by omega
          have hw2 : IntKind.i64.wrap (da + db) = da + db := IntWalk.i64_in _ (by omega)
          have HE := Lib.hid (show degL L (k + 1) = degL L k ++ [da + db] by
            have e : gAt L k = ⟨3, ja, jb⟩ := (gat_mk hx).symm
            rw [← hmm, hda, hdb]
            simp [degL, e])
          obtain ⟨W, hW⟩ : ∃ W, W = wr.alloc (Obj.cells #[.int .i64 3, .int .i64 ja, .int .i64 jb] 75) := ⟨_, rfl⟩
          have bW : Below wr.heap.size wr W := by rw [hW]; exact Below.alloc (Below.refl _ _) (Nat.le_refl _) _
          have c1 : W.cell? ⟨wr.heap.size, 1, none⟩ = some (.int .i64 ja) := by rw [hW]; simp [go_sem]
          have c2 : W.cell? ⟨wr.heap.size, 2, none⟩ = some (.int .i64 jb) := by rw [hW]; simp [go_sem]
          have ht : wr.heap.size < W.heap.size := by rw [hW]; simp
          have A1 := hR.below bW hR.1
          have B1 := hb.trans (bW.mono hs)
          have hG1 := A1.1
          obtain ⟨d0, _⟩ := A1.2 ja (by omega)
          obtain ⟨d1, _⟩ := A1.2 jb (by omega)
          obtain ⟨dk, fk⟩ := A1.2 k (by omega)
          rw [← hda] at d0
          rw [← hdb] at d1
          have hGr := hR.1
          have ja60 : (ja : Int) < 60 := by omega
          have jb60 : (jb : Int) < 60 := by omega
          have k60 : (k : Int) < 60 := by omega
          have ja0 : (0 : Int) ≤ ja := by omega
          have jb0 : (0 : Int) ≤ jb := by omega
          have HA1 := Lib.hid A1
          have HB1 := Lib.hid B1
          have HW := Lib.hid hW
          clear hx hR hb hx0 hcs hda hdb hmm A1 B1 bW hW
          go_wp2_with fail
          rw [← HW.out]
          clear HW a0 a1 a2
          go_region_held3 (fun w' => w'.cell? ⟨wr.heap.size, 1, none⟩ = some (.int .i64 ja) ∧ w'.cell? ⟨wr.heap.size, 2, none⟩ = some (.int .i64 jb) ∧ w'.cell? ⟨G, ja, none⟩ = some (.int .i64 da) ∧ w'.cell? ⟨G, jb, none⟩ = some (.int .i64 db)) (first | (refine ⟨?_, ?_, ?_, ?_⟩ <;> (rw [World.cell?_drew, World.cell?_setCell_other _ _ _ _ (addr_ne (by omega))]; assumption)) | go_keep) (fail)
          have hR2 : ArrI (W.setCell ⟨G, k, none⟩ (.int .i64 (da + db))).drew G (degL L (k + 1)) := by
            rw [HE.out]
            have h := HA1.out.set hlen (by omega) (da + db)
            exact h.below (Below.drew (Below.refl _ _)) h.1
          have hb2 : Below w.heap.size w (W.setCell ⟨G, k, none⟩ (.int .i64 (da + db))).drew := Below.drew (HB1.out.setCell hGw _)
          clear c1 c2 d0 d1 dk fk
          go_wp2_with fail
          go_roundw
          case rel => exact ⟨k + 1, by omega, by go_num, hR2, hb2⟩
          case measure => simp [intOf]; omega
        · have hmm : min (da + db) 1000 = 1000 := by omega
          have hw2 : IntKind.i64.wrap (da + db) = da + db := IntWalk.i64_in _ (by omega)
          have HE := Lib.hid (show degL L (k + 1) = degL L k ++ [1000] by
            have e : gAt L k = ⟨3, ja, jb⟩ := (gat_mk hx).symm
            rw [← hmm, hda, hdb]
            simp [degL, e])
          obtain ⟨W, hW⟩ : ∃ W, W = wr.alloc (Obj.cells #[.int .i64 3, .int .i64 ja, .int .i64 jb] 75) := ⟨_, rfl⟩
          have bW : Below wr.heap.size wr W := by rw [hW]; exact Below.alloc (Below.refl _ _) (Nat.le_refl _) _
          have c1 : W.cell? ⟨wr.heap.size, 1, none⟩ = some (.int .i64 ja) := by rw [hW]; simp [go_sem]
          have c2 : W.cell? ⟨wr.heap.size, 2, none⟩ = some (.int .i64 jb) := by rw [hW]; simp [go_sem]
          have ht : wr.heap.size < W.heap.size := by rw [hW]; simp
          have A1 := hR.below bW hR.1
          have B1 := hb.trans (bW.mono hs)
          have hG1 := A1.1
          obtain ⟨d0, _⟩ := A1.2 ja (by omega)
          obtain ⟨d1, _⟩ := A1.2 jb (by omega)
          obtain ⟨dk, fk⟩ := A1.2 k (by omega)
          rw [← hda] at d0
          rw [← hdb] at d1
          have hGr := hR.1
          have ja60 : (ja : Int) < 60 := by omega
          have jb60 : (jb : Int) < 60 := by omega
          have k60 : (k : Int) < 60 := by omega
          have ja0 : (0 : Int) ≤ ja := by omega
          have jb0 : (0 : Int) ≤ jb := by omega
          have HA1 := Lib.hid A1
          have HB1 := Lib.hid B1
          have HW := Lib.hid hW
          clear hx hR hb hx0 hcs hda hdb hmm A1 B1 bW hW
          go_wp2_with fail
          rw [← HW.out]
          clear HW a0 a1 a2
          go_region_held3 (fun w' => w'.cell? ⟨wr.heap.size, 1, none⟩ = some (.int .i64 ja) ∧ w'.cell? ⟨wr.heap.size, 2, none⟩ = some (.int .i64 jb) ∧ w'.cell? ⟨G, ja, none⟩ = some (.int .i64 da) ∧ w'.cell? ⟨G, jb, none⟩ = some (.int .i64 db)) (first | (refine ⟨?_, ?_, ?_, ?_⟩ <;> (rw [World.cell?_drew, World.cell?_setCell_other _ _ _ _ (addr_ne (by omega))]; assumption)) | go_keep) (fail)
          have hR2 : ArrI (W.setCell ⟨G, k, none⟩ (.int .i64 (1000))).drew G (degL L (k + 1)) := by
            rw [HE.out]
            have h := HA1.out.set hlen (by omega) (1000)
            exact h.below (Below.drew (Below.refl _ _)) h.1
          have hb2 : Below w.heap.size w (W.setCell ⟨G, k, none⟩ (.int .i64 (1000))).drew := Below.drew (HB1.out.setCell hGw _)
          clear c1 c2 d0 d1 dk fk
          go_wp2_with fail
          go_roundw
          case rel => exact ⟨k + 1, by omega, by go_num, hR2, hb2⟩
          case measure => simp [intOf]; omega
      by_cases hk0' : xk = 0
      · subst hk0'
        have HE := Lib.hid (show degL L (k + 1) = degL L k ++ [1] by
          have e : gAt L k = ⟨0, xa, xb⟩ := (gat_mk hx).symm
          simp [degL, e])
        obtain ⟨dk, fk⟩ := hR.2 k (by omega)
        have hGr := hR.1
        have k60 : (k : Int) < 60 := by omega
        have hR1 : ArrI (wr.setCell ⟨G, k, none⟩ (.int .i64 1)) G (degL L (k + 1)) := by
          rw [HE.out]
          exact hR.set hlen (by omega) 1
        have hR2 : ArrI ((wr.setCell ⟨G, k, none⟩ (.int .i64 1)).alloc (Obj.cells #[.int .i64 0, .int .i64 xa, .int .i64 xb] 75)) G (degL L (k + 1)) := hR1.below (Below.alloc (Below.refl _ _) (Nat.le_refl _) _) hR1.1
        have hb2 : Below w.heap.size w ((wr.setCell ⟨G, k, none⟩ (.int .i64 1)).alloc (Obj.cells #[.int .i64 0, .int .i64 xa, .int .i64 xb] 75)) := Below.alloc (hb.setCell hGw _) (by simpa using hs) _
        clear hx hR hb hx0 hcs hR1
        go_wp2_with fail
        go_roundw
        case rel => exact ⟨k + 1, by omega, by go_num, hR2, hb2⟩
        case measure => simp [intOf]; omega
      · have hk1' : xk = 1 := by omega
        subst hk1'
        have HE := Lib.hid (show degL L (k + 1) = degL L k ++ [0] by
          have e : gAt L k = ⟨1, xa, xb⟩ := (gat_mk hx).symm
          simp [degL, e])
        have bW : Below wr.heap.size wr (wr.alloc (Obj.cells #[.int .i64 1, .int .i64 xa, .int .i64 xb] 75)) := Below.alloc (Below.refl _ _) (Nat.le_refl _) _
        have hR2 : ArrI (wr.alloc (Obj.cells #[.int .i64 1, .int .i64 xa, .int .i64 xb] 75)) G (degL L (k + 1)) := by rw [HE.out]; exact (hR.below bW hR.1).zero
        have hb2 := hb.trans (bW.mono hs)
        clear hx hR hb hx0 hcs bW
        go_wp2_with fail
        go_roundw
        case rel => exact ⟨k + 1, by omega, by go_num, hR2, hb2⟩
        case measure => simp [intOf]; omega
    · have hkl : k = L.length := by omega
      subst hkl
      obtain ⟨d0, _⟩ := hR.2 (L.length - 1) (by omega)
      rw [HR.out] at d0
      obtain ⟨n, hn⟩ : ∃ n, L.length = n + 1 := ⟨L.length - 1, by omega⟩
      rw [hn] at d0
      simp only [Nat.add_sub_cancel] at d0
      have hnn : (L.length : Int) - 1 = (n : Int) := by omega
      have hn1 : (n : Int) < 60 := by omega
      have hn0 : (0 : Int) ≤ n := by omega
      have HN := Lib.hid hnn
      clear hR hn hnn
      go_wp2_with (go_at_call 128; refine (iLast _ L.length _ n (by omega) HN.out _).mono ?_; rintro e w' ⟨rfl, rfl⟩)
      go_ret
      exact ⟨rfl, hb⟩
set_option maxHeartbeats 1000000 in
theorem iDepthOf (p : Int) (v : Value) (L : List Gt) (w : World) (h : Gats w v L) :
    Calls Try.prog 62 #[.int .i64 p, v] w fun e w' => e = .returned (.int .i64 (depV p L)) ∧ Below w.heap.size w w' := by
  cases hv : circB p L
  · have e1 : depV p L = -1 := by simp [depV, hv]
    rw [e1]
    have HV := Lib.hid hv
    have HG := Lib.hid h
    clear hv e1 h
    go_enter Try.func62, Try.ntmps62
    go_wp2_with fail
    refine (iCircuitValid p _ L _ HG.out).mono ?_
    rintro e w1 ⟨he, hb1⟩
    rw [HV.out] at he
    subst he
    have B1 := hb1
    clear hb1
    go_wp2_with fail
    go_ret
    exact ⟨rfl, B1⟩
  · have e1 : depV p L = (depL L L.length).getD (L.length - 1) 0 := by simp [depV, hv]
    obtain ⟨hl, a, cap, rfl, h2⟩ := h
    rcases h2 with rfl | ⟨g, off, rfl, hg, hc⟩
    · have := (circB_iff.1 hv).2.1
      simp at this
    · exact iDep_some p L hv g off cap _ e1.symm w hg hc
set_option maxHeartbeats 1000000 in
theorem iFormalDegree (p : Int) (v : Value) (L : List Gt) (w : World) (h : Gats w v L) :
    Calls Try.prog 52 #[.int .i64 p, v] w fun e w' => e = .returned (.int .i64 (fdgV p L)) ∧ Below w.heap.size w w' := by
  cases hv : circB p L
  · have e1 : fdgV p L = -1 := by simp [fdgV, hv]
    rw [e1]
    have HV := Lib.hid hv
    have HG := Lib.hid h
    clear hv e1 h
    go_enter Try.func52, Try.ntmps52
    go_wp2_with fail
    refine (iCircuitValid p _ L _ HG.out).mono ?_
    rintro e w1 ⟨he, hb1⟩
    rw [HV.out] at he
    subst he
    have B1 := hb1
    clear hb1
    go_wp2_with fail
    go_ret
    exact ⟨rfl, B1⟩
  · have e1 : fdgV p L = (degL L L.length).getD (L.length - 1) 0 := by simp [fdgV, hv]
    obtain ⟨hl, a, cap, rfl, h2⟩ := h
    rcases h2 with rfl | ⟨g, off, rfl, hg, hc⟩
    · have := (circB_iff.1 hv).2.1
      simp at this
    · exact iFdg_some p L hv g off cap _ e1.symm w hg hc
end Go.Proofs.Ytegkcfinklcglaa
namespace Go.Proofs.Ytegkcfinklcglaa
open Go.RowKit
/-- the lengths of the formulas of the first gates, each at most 1000 -/
def sizL (L : List Gt) : Nat → List Int
  | 0 => []
  | k + 1 => sizL L k ++ [if joinsB (gAt L k) = true then min (1 + (sizL L k).getD (gAt L k).a.toNat 0 + (sizL L k).getD (gAt L k).b.toNat 0) 1000 else 1]
theorem sizL_len (L : List Gt) : ∀ k : Nat, (sizL L k).length = k
  | 0 => rfl
  | k + 1 => by simp [sizL, sizL_len L k]
theorem sizL_bd (L : List Gt) : ∀ k j : Nat, 0 ≤ (sizL L k).getD j 0 ∧ (sizL L k).getD j 0 ≤ 1000
  | 0, j => by simp [sizL]
  | k + 1, j => by
    have ih := sizL_bd L k
    simp only [sizL, List.getD_eq_getElem?_getD] at ih ⊢
    by_cases hj : j < (sizL L k).length
    · rw [List.getElem?_append_left hj]
      exact ih j
    · rw [List.getElem?_append_right (by omega)]
      by_cases he : j - (sizL L k).length = 0
      · rw [he]
        simp only [List.getElem?_cons_zero, Option.getD_some]
        have h1 := ih (gAt L k).a.toNat
        have h2 := ih (gAt L k).b.toNat
        split <;> omega
      · rw [List.getElem?_eq_none (by simp; omega)]
        simp
/-- what SpreadSize returns -/
def sprV (p : Int) (L : List Gt) : Int := if circB p L = true then (sizL L L.length).getD (L.length - 1) 0 else -1
theorem ArrI.put {w : World} {g k : Nat} {D : List Int} {u : Int} (h : ArrI w g (D ++ [u])) (hl : D.length = k) (hk : k < 60) (v : Int) : ArrI (w.setCell ⟨g, k, none⟩ (.int .i64 v)) g (D ++ [v]) := by
  refine ⟨by simpa using h.1, fun j hj => ⟨?_, by rw [World.frozen?_setCell]; exact (h.2 j hj).2⟩⟩
  rw [getD_snoc]
  by_cases e : j = k
  · rw [if_pos (by omega), e]
    exact World.cell?_setCell_same _ _ _ (h.2 k hk).1
  · rw [if_neg (by omega), World.cell?_setCell_other _ _ _ _ (by simp <;> omega), (h.2 j hj).1, getD_snoc, if_neg (by omega)]
set_option maxRecDepth 100000 in
set_option maxHeartbeats 4000000 in
theorem sSizes (p : Int) (L : List Gt) (hv : circB p L = true) (g off cap : Nat) (w : World) (hg : g < w.heap.size)
    (hc : ∀ j : Nat, j < L.length → GAt w g (off + j * 3) (L.getD j default)) :
    Calls Try.prog 150 #[.slice (some ⟨g, off, none⟩) L.length cap] w fun e w' => ∃ v, e = .returned v ∧ RowI w' w.heap.size v (sizL L L.length) ∧ Below w.heap.size w w' := by
  obtain ⟨i0, hi, hz0, hz1, hz2⟩ := info_parts infoInt
  obtain ⟨hp, hl1, hl2, hall⟩ := circB_iff.1 hv
  have HC := Lib.hid hc
  have HA := Lib.hid hall
  have hR0 := RowI.lit0 w w.heap.size (Nat.le_refl _)
  have hB0 : Below w.heap.size w (w.alloc (.cells #[] 3)) := Below.alloc (Below.refl _ _) (Nat.le_refl _) _
  clear hc hv hall hp
  go_enter Try.func150, Try.ntmps150
  go_wp2_with fail
  go_loopw [3, 10] (fun v i wr => ∃ k : Nat, k ≤ L.length ∧ i = .int .i64 k ∧ RowI wr w.heap.size v (sizL L k) ∧ Below w.heap.size w wr) (fun _ i _ => L.length - (intOf i).toNat)
  case atStart => exact ⟨0, by omega, rfl, hR0, hB0⟩
  case round =>
    clear hR0 hB0
    obtain ⟨k, hk, rfl, hR, hb⟩ := hrel
    by_cases hlt : k < L.length
    · have hltp : (k : Int) < (L.length : Int) := by omega
      have hk0 : (0 : Int) ≤ (k : Int) := by omega
      obtain ⟨a0, a1, a2⟩ := (HC.out k hlt).below hb hg
      have hx0 := HA.out k hlt
      obtain ⟨x, hx⟩ : ∃ x, x = L.getD k default := ⟨_, rfl⟩
      rw [← hx] at a0 a1 a2
      rw [← gat_mk hx] at hx0
      have hcs := gOK_cases hx0
      simp only at hcs
      have HW := Lib.hid hR
      have Hb := Lib.hid hb
      have hs := hb.size
      have hlen : (sizL L k).length = k := sizL_len L k
      obtain ⟨xk, xa, xb⟩ := x
      simp only at a0 a1 a2 hcs
      by_cases h2 : 2 ≤ xk
      · have hxk : xk = 2 ∨ xk = 3 := by omega
        obtain ⟨ja, rfl⟩ := Int.eq_ofNat_of_zero_le (show 0 ≤ xa by omega)
        obtain ⟨jb, rfl⟩ := Int.eq_ofNat_of_zero_le (show 0 ≤ xb by omega)
        have hja : ja < k := by omega
        have hjb : jb < k := by omega
        obtain ⟨da, hda⟩ : ∃ d, d = (sizL L k).getD ja 0 := ⟨_, rfl⟩
        obtain ⟨db, hdb⟩ : ∃ d, d = (sizL L k).getD jb 0 := ⟨_, rfl⟩
        have b1 := sizL_bd L k ja
        have b2 := sizL_bd L k jb
        rw [← hda] at b1
        rw [← hdb] at b2
        obtain ⟨m, hm⟩ : ∃ m, (if 1000 < 1 + da + db then 1000 else 1 + da + db) = m := ⟨_, rfl⟩
        have hmm : min (1 + da + db) 1000 = m := by rw [← hm]; split <;> omega
        have hm0 : 0 ≤ m ∧ m ≤ 1000 := by rw [← hm]; split <;> omega
        have hw1 : IntKind.i64.wrap (1 + da) = 1 + da := IntWalk.i64_in _ (by omega)
        have hw2 : IntKind.i64.wrap (1 + da + db) = 1 + da + db := IntWalk.i64_in _ (by omega)
        have HE := Lib.hid (show sizL L (k + 1) = sizL L k ++ [m] by
          have e : gAt L k = ⟨xk, ja, jb⟩ := (gat_mk hx).symm
          rw [← hmm]
          simp only [sizL, e, Int.toNat_natCast, ← hda, ← hdb]
          rw [if_pos (by rcases hxk with rfl | rfl <;> rfl)])
        rcases hR.shape' hlen with ⟨_, h0⟩ | ⟨g2, cap2, rfl, hg0, hg2, hn2, hm2, hcell⟩
        · omega
        have d0 := hcell ja (by omega)
        have d1 := hcell jb (by omega)
        rw [← hda] at d0
        rw [← hdb] at d1
        clear hx hR hb hx0 hcs hcell hda hdb hxk hmm
        go_wp2_with fail
        go_quiet (fail)
        go_wp2_with (at_builtin; refine wpList_append_own _ rfl _ _ 58 rfl (w.heap.size) 3 i0 (.int .i64 0) 1 8 Try.underlying58 hi hz0 hz1 hz2 rfl (by decide) _ _ _ rfl (RowI.below HW.out (by repeat (first | exact Below.refl _ _ | apply Below.drew | apply below_drewN | (refine Below.alloc ?_ (by first | omega | (simp <;> omega)) _)))) _ 1 1 [.int .i64 (m)] rfl rfl (by intro j u hj; match j, hj with | 0, hj => (simp at hj; subst hj; simp [Addr.add, go_sem])) (one_ok _) (by unfold maxLen; omega) (by omega) (by first | omega | (simp; omega)) ?_)
        intro v' w2 hown' hgrow _
        have hR2 := RowI.snoc (L := sizL L k) (by rw [hlen]; exact hown')
        have hb2 := HW.out.grow Hb.out hs (by repeat (first | exact Below.refl _ _ | apply Below.drew | apply below_drewN | (refine Below.alloc ?_ (by first | omega | (simp <;> omega)) _))) hgrow
        rw [← HE.out] at hR2
        clear hown' hgrow
        go_wp2_with fail
        go_roundw
        case rel => exact ⟨k + 1, by omega, by go_num, hR2, hb2⟩
        case measure => simp [intOf]; omega
      · have HE := Lib.hid (show sizL L (k + 1) = sizL L k ++ [1] by
          have : joinsB (gAt L k) = false := by rw [← gat_mk hx]; simp [joinsB]; omega
          simp [sizL, this])
        clear hx hR hb hx0 hcs
        go_wp2_with (at_builtin; refine wpList_append_own _ rfl _ _ 58 rfl (w.heap.size) 3 i0 (.int .i64 0) 1 8 Try.underlying58 hi hz0 hz1 hz2 rfl (by decide) _ _ _ rfl (RowI.below HW.out (by repeat (first | exact Below.refl _ _ | apply Below.drew | apply below_drewN | (refine Below.alloc ?_ (by first | omega | (simp <;> omega)) _)))) _ 1 1 [.int .i64 (1)] rfl rfl (by intro j u hj; match j, hj with | 0, hj => (simp at hj; subst hj; simp [Addr.add, go_sem])) (one_ok _) (by unfold maxLen; omega) (by omega) (by first | omega | (simp; omega)) ?_)
        intro v' w2 hown' hgrow _
        have hR2 := RowI.snoc (L := sizL L k) (by rw [hlen]; exact hown')
        have hb2 := HW.out.grow Hb.out hs (by repeat (first | exact Below.refl _ _ | apply Below.drew | apply below_drewN | (refine Below.alloc ?_ (by first | omega | (simp <;> omega)) _))) hgrow
        rw [← HE.out] at hR2
        clear hown' hgrow
        go_wp2_with fail
        go_roundw
        case rel => exact ⟨k + 1, by omega, by go_num, hR2, hb2⟩
        case measure => simp [intOf]; omega
    · have hkl : k = L.length := by omega
      subst hkl
      have HW := Lib.hid (And.intro hR hb)
      clear hR hb
      go_wp2_with fail
      go_ret
      exact ⟨_, rfl, HW.out⟩
set_option maxRecDepth 100000 in
set_option maxHeartbeats 4000000 in
theorem sSpread_some (p : Int) (L : List Gt) (hv : circB p L = true) (g off cap : Nat) (r : Int) (hr : (sizL L L.length).getD (L.length - 1) 0 = r) (w : World) (hg : g < w.heap.size)
    (hc : ∀ j : Nat, j < L.length → GAt w g (off + j * 3) (L.getD j default)) :
    Calls Try.prog 74 #[.int .i64 p, .slice (some ⟨g, off, none⟩) L.length cap] w fun e w' => e = .returned (.int .i64 r) ∧ Below w.heap.size w w' := by
  obtain ⟨hp, hl1, hl2, hall⟩ := circB_iff.1 hv
  have HV := Lib.hid hv
  have HG := Lib.hid (show Gats w (.slice (some ⟨g, off, none⟩) L.length cap) L from ⟨by omega, _, _, rfl, .inr ⟨g, off, rfl, hg, hc⟩⟩)
  have HC := Lib.hid hc
  have HR := Lib.hid hr
  clear hr hc hv hall hp
  go_enter Try.func74, Try.ntmps74
  go_wp2_with fail
  refine (sCircuitValid p _ L _ HG.out).mono ?_
  rintro e w1 ⟨he, hb1⟩
  rw [HV.out] at he
  subst he
  have HB := Lib.hid hb1
  have hg1 : g < w1.heap.size := Nat.lt_of_lt_of_le hg hb1.size
  clear hb1
  go_wp2_with fail
  refine (sSizes p L HV.out g off cap _ hg1 (fun j hj => (HC.out j hj).below HB.out hg)).mono ?_
  rintro e w2 ⟨v, rfl, hR, hb2⟩
  have HB2 := Lib.hid (HB.out.trans (hb2.mono HB.out.size))
  have hlen := sizL_len L L.length
  rcases hR.shape' hlen with ⟨_, h0⟩ | ⟨g2, cap2, rfl, hg0, hg2, hn2, hm2, hcell⟩
  · omega
  have d0 := hcell (L.length - 1) (by omega)
  rw [HR.out] at d0
  obtain ⟨n, hn⟩ : ∃ n, L.length = n + 1 := ⟨L.length - 1, by omega⟩
  rw [hn] at d0
  simp only [Nat.add_sub_cancel] at d0
  have hnn : (L.length : Int) - 1 = (n : Int) := by omega
  have hn1 : (n : Int) < (L.length : Int) := by omega
  clear hR hcell hb2
  go_wp2_with fail
  go_ret
  exact ⟨rfl, HB2.out⟩
set_option maxRecDepth 100000 in
set_option maxHeartbeats 4000000 in
theorem iSpread_some (p : Int) (L : List Gt) (hv : circB p L = true) (g off cap : Nat) (r : Int) (hr : (sizL L L.length).getD (L.length - 1) 0 = r) (w : World) (hg : g < w.heap.size)
    (hc : ∀ j : Nat, j < L.length → GAt w g (off + j * 3) (L.getD j default)) :
    Calls Try.prog 73 #[.int .i64 p, .slice (some ⟨g, off, none⟩) L.length cap] w fun e w' => e = .returned (.int .i64 r) ∧ Below w.heap.size w w' := by
  obtain ⟨hp, hl1, hl2, hall⟩ := circB_iff.1 hv
  have HC := Lib.hid hc
  have HV := Lib.hid hv
  have HR := Lib.hid hr
  clear hr
  have HA := Lib.hid hall
  have hG : Gats w (.slice (some ⟨g, off, none⟩) L.length cap) L := ⟨by omega, _, _, rfl, .inr ⟨g, off, rfl, hg, hc⟩⟩
  have HG := Lib.hid hG
  clear hc hv hall hp hG
  go_enter Try.func73, Try.ntmps73
  go_wp2_with fail
  refine (iCircuitValid p _ L _ HG.out).mono ?_
  rintro e w1 ⟨he, hb1⟩
  rw [HV.out] at he
  subst he
  obtain ⟨G, hG⟩ : ∃ G, G = w1.heap.size := ⟨_, rfl⟩
  have hGw : w.heap.size ≤ G := by rw [hG]; exact hb1.size
  have A0 : ArrI (w1.alloc (.cells (Array.replicate 60 (.int .i64 0)) 133)) G [] := by rw [hG]; exact ArrI.new w1 _
  have B0 : Below w.heap.size w (w1.alloc (.cells (Array.replicate 60 (.int .i64 0)) 133)) := Below.alloc hb1 hb1.size _
  clear hb1
  go_wp2_with fail
  rw [← hG]
  go_loopw [14] (fun i wr => ∃ k : Nat, k ≤ L.length ∧ i = .int .i64 k ∧ ArrI wr G (sizL L k) ∧ Below w.heap.size w wr) (fun i _ => L.length - (intOf i).toNat)
  case atStart => exact ⟨0, by omega, rfl, A0, B0⟩
  case round =>
    clear A0 B0 hG
    obtain ⟨k, hk, rfl, hR, hb⟩ := hrel
    by_cases hlt : k < L.length
    · have hltp : (k : Int) < (L.length : Int) := by omega
      have hk0 : (0 : Int) ≤ (k : Int) := by omega
      obtain ⟨a0, a1, a2⟩ := (HC.out k hlt).below hb hg
      have hx0 := HA.out k hlt
      obtain ⟨x, hx⟩ : ∃ x, x = L.getD k default := ⟨_, rfl⟩
      rw [← hx] at a0 a1 a2
      rw [← gat_mk hx] at hx0
      have hcs := gOK_cases hx0
      simp only at hcs
      have Hb := Lib.hid hb
      have hs := hb.size
      have hlen : (sizL L k).length = k := sizL_len L k
      obtain ⟨xk, xa, xb⟩ := x
      simp only at a0 a1 a2 hcs
      by_cases h2 : 2 ≤ xk
      · have hxk : xk = 2 ∨ xk = 3 := by omega
        obtain ⟨ja, rfl⟩ := Int.eq_ofNat_of_zero_le (show 0 ≤ xa by omega)
        obtain ⟨jb, rfl⟩ := Int.eq_ofNat_of_zero_le (show 0 ≤ xb by omega)
        have hja : ja < k := by omega
        have hjb : jb < k := by omega
        obtain ⟨da, hda⟩ : ∃ d, d = (sizL L k).getD ja 0 := ⟨_, rfl⟩
        obtain ⟨db, hdb⟩ : ∃ d, d = (sizL L k).getD jb 0 := ⟨_, rfl⟩
        have b1 := sizL_bd L k ja
        have b2 := sizL_bd L k jb
        rw [← hda] at b1
        rw [← hdb] at b2
        have hw1 : IntKind.i64.wrap (1 + da) = 1 + da := IntWalk.i64_in _ (by omega)
        have hw2 : IntKind.i64.wrap (1 + da + db) = 1 + da + db := IntWalk.i64_in _ (by omega)
        obtain ⟨m, hm⟩ : ∃ m, (if 1 + da + db < 1000 then 1 + da + db else 1000) = m := ⟨_, rfl⟩
        have hmm : min (1 + da + db) 1000 = m := by rw [← hm]; split <;> omega
        have hm0 : 0 ≤ m ∧ m ≤ 1000 := by rw [← hm]; split <;> omega
        have HE := Lib.hid (show sizL L (k + 1) = sizL L k ++ [m] by
          have e : gAt L k = ⟨xk, ja, jb⟩ := (gat_mk hx).symm
          rw [← hmm]
          simp only [sizL, e, Int.toNat_natCast, ← hda, ← hdb]
          rw [if_pos (by rcases hxk with rfl | rfl <;> rfl)])
        have HJ := Lib.hid (show joinsB ⟨xk, ja, jb⟩ = true by rcases hxk with rfl | rfl <;> rfl)
        have k60 : (k : Int) < 60 := by omega
        obtain ⟨dk, fk⟩ := hR.2 k (by omega)
        have hGr := hR.1
        go_wp2_with fail
        refine (iJoins_is true xk ja jb HJ.out _).mono ?_
        rintro e W ⟨rfl, hbW⟩
        have hb1 : Below w.heap.size w ((wr.setCell ⟨G, k, none⟩ (.int .i64 1)).alloc (Obj.cells #[.int .i64 xk, .int .i64 ja, .int .i64 jb] 75)) := Below.alloc (hb.setCell hGw _) (by simpa using hs) _
        have A0 : ArrI ((wr.setCell ⟨G, k, none⟩ (.int .i64 1)).alloc (Obj.cells #[.int .i64 xk, .int .i64 ja, .int .i64 jb] 75)) G (sizL L k ++ [1]) :=
          (hR.set hlen (by omega) 1).below (Below.alloc (Below.refl _ _) (Nat.le_refl _) _) (by simpa using hR.1)
        have c1 := hbW.cell (p := ⟨wr.heap.size, 1, none⟩) (by simp)
        have c2 := hbW.cell (p := ⟨wr.heap.size, 2, none⟩) (by simp)
        simp [go_sem] at c1 c2
        have ht : wr.heap.size < W.heap.size := by have := hbW.size; simp at this; omega
        have A1 := A0.below hbW (by simpa using Nat.lt_succ_of_lt hR.1)
        have B1 := hb1.trans (hbW.mono hb1.size)
        have hG1 := A1.1
        obtain ⟨d0, _⟩ := A1.2 ja (by omega)
        obtain ⟨d1, _⟩ := A1.2 jb (by omega)
        obtain ⟨dk, fk⟩ := A1.2 k (by omega)
        rw [getD_snoc, if_neg (by omega), ← hda] at d0
        rw [getD_snoc, if_neg (by omega), ← hdb] at d1
        rw [getD_snoc, if_pos hlen.symm] at dk
        have ja60 : (ja : Int) < 60 := by omega
        have jb60 : (jb : Int) < 60 := by omega
        have ja0 : (0 : Int) ≤ ja := by omega
        have jb0 : (0 : Int) ≤ jb := by omega
        have HA1 := Lib.hid A1
        have HB1 := Lib.hid B1
        have HM := Lib.hid hm
        clear hx hR hb hx0 hcs hda hdb hxk hmm A1 B1 A0 hb1 hbW a0 a1 a2 hm
        go_wp2_with fail
        by_cases h7 : 1 + da + db < 1000
        · have hme : m = 1 + da + db := by rw [← HM.out, if_pos h7]
          subst hme
          go_region_held3 (fun w' => w'.cell? ⟨wr.heap.size, 1, none⟩ = some (.int .i64 ja) ∧ w'.cell? ⟨wr.heap.size, 2, none⟩ = some (.int .i64 jb) ∧ w'.cell? ⟨G, ja, none⟩ = some (.int .i64 da) ∧ w'.cell? ⟨G, jb, none⟩ = some (.int .i64 db)) (first | (refine ⟨?_, ?_, ?_, ?_⟩ <;> (rw [World.cell?_drew, World.cell?_setCell_other _ _ _ _ (addr_ne (by omega))]; assumption)) | go_keep) (fail)
          have hR2 : ArrI (W.setCell ⟨G, k, none⟩ (.int .i64 (1 + da + db))).drew G (sizL L (k + 1)) := by
            rw [HE.out]
            have h := HA1.out.put hlen (by omega) (1 + da + db)
            exact h.below (Below.drew (Below.refl _ _)) h.1
          have hb2 : Below w.heap.size w (W.setCell ⟨G, k, none⟩ (.int .i64 (1 + da + db))).drew := Below.drew (HB1.out.setCell hGw _)
          clear c1 c2 d0 d1 dk fk
          go_wp2_with fail
          go_roundw
          case rel => exact ⟨k + 1, by omega, by go_num, hR2, hb2⟩
          case measure => simp [intOf]; omega
        · have hme : m = 1000 := by rw [← HM.out, if_neg h7]
          subst hme
          go_region_held3 (fun w' => w'.cell? ⟨wr.heap.size, 1, none⟩ = some (.int .i64 ja) ∧ w'.cell? ⟨wr.heap.size, 2, none⟩ = some (.int .i64 jb) ∧ w'.cell? ⟨G, ja, none⟩ = some (.int .i64 da) ∧ w'.cell? ⟨G, jb, none⟩ = some (.int .i64 db)) (first | (refine ⟨?_, ?_, ?_, ?_⟩ <;> (rw [World.cell?_drew, World.cell?_setCell_other _ _ _ _ (addr_ne (by omega))]; assumption)) | go_keep) (fail)
          have hR2 : ArrI (W.setCell ⟨G, k, none⟩ (.int .i64 1000)).drew G (sizL L (k + 1)) := by
            rw [HE.out]
            have h := HA1.out.put hlen (by omega) 1000
            exact h.below (Below.drew (Below.refl _ _)) h.1
          have hb2 : Below w.heap.size w (W.setCell ⟨G, k, none⟩ (.int .i64 1000)).drew := Below.drew (HB1.out.setCell hGw _)
          clear c1 c2 d0 d1 dk fk
          go_wp2_with fail
          go_roundw
          case rel => exact ⟨k + 1, by omega, by go_num, hR2, hb2⟩
          case measure => simp [intOf]; omega
      · have HE := Lib.hid (show sizL L (k + 1) = sizL L k ++ [1] by
          have : joinsB (gAt L k) = false := by rw [← gat_mk hx]; simp [joinsB]; omega
          simp [sizL, this])
        have HJ := Lib.hid (show joinsB ⟨xk, xa, xb⟩ = false by simp [joinsB]; omega)
        have k60 : (k : Int) < 60 := by omega
        obtain ⟨dk, fk⟩ := hR.2 k (by omega)
        have hGr := hR.1
        clear hx hx0 hcs
        go_wp2_with fail
        refine (iJoins_is false xk xa xb HJ.out _).mono ?_
        rintro e W ⟨rfl, hbW⟩
        have hb1 : Below w.heap.size w ((wr.setCell ⟨G, k, none⟩ (.int .i64 1)).alloc (Obj.cells #[.int .i64 xk, .int .i64 xa, .int .i64 xb] 75)) := Below.alloc (hb.setCell hGw _) (by simpa using hs) _
        have A0 : ArrI ((wr.setCell ⟨G, k, none⟩ (.int .i64 1)).alloc (Obj.cells #[.int .i64 xk, .int .i64 xa, .int .i64 xb] 75)) G (sizL L k ++ [1]) :=
          (hR.set hlen (by omega) 1).below (Below.alloc (Below.refl _ _) (Nat.le_refl _) _) (by simpa using hR.1)
        have hR2 : ArrI W G (sizL L (k + 1)) := by rw [HE.out]; exact A0.below hbW (by simpa using Nat.lt_succ_of_lt hR.1)
        have hb2 := hb1.trans (hbW.mono hb1.size)
        clear hbW hR hb a0 a1 a2 A0 hb1 dk fk
        go_wp2_with fail
        go_roundw
        case rel => exact ⟨k + 1, by omega, by go_num, hR2, hb2⟩
        case measure => simp [intOf]; omega
    · have hkl : k = L.length := by omega
      subst hkl
      obtain ⟨d0, _⟩ := hR.2 (L.length - 1) (by omega)
      rw [HR.out] at d0
      obtain ⟨n, hn⟩ : ∃ n, L.length = n + 1 := ⟨L.length - 1, by omega⟩
      rw [hn] at d0
      simp only [Nat.add_sub_cancel] at d0
      have hnn : (L.length : Int) - 1 = (n : Int) := by omega
      have hn1 : (n : Int) < 60 := by omega
      have hn0 : (0 : Int) ≤ n := by omega
      have HN := Lib.hid hnn
      clear hR hn hnn
      go_wp2_with (go_at_call 128; refine (iLast _ L.length _ n (by omega) HN.out _).mono ?_; rintro e w' ⟨rfl, rfl⟩)
      go_ret
      exact ⟨rfl, hb⟩
set_option maxHeartbeats 1000000 in
theorem sSpreadSize (p : Int) (v : Value) (L : List Gt) (w : World) (h : Gats w v L) :
    Calls Try.prog 74 #[.int .i64 p, v] w fun e w' => e = .returned (.int .i64 (sprV p L)) ∧ Below w.heap.size w w' := by
  cases hv : circB p L
  · have e1 : sprV p L = -1 := by simp [sprV, hv]
    rw [e1]
    have HV := Lib.hid hv
    have HG := Lib.hid h
    clear hv e1 h
    go_enter Try.func74, Try.ntmps74
    go_wp2_with fail
    refine (sCircuitValid p _ L _ HG.out).mono ?_
    rintro e w1 ⟨he, hb1⟩
    rw [HV.out] at he
    subst he
    have B1 := hb1
    clear hb1
    go_wp2_with fail
    go_ret
    exact ⟨rfl, B1⟩
  · have e1 : sprV p L = (sizL L L.length).getD (L.length - 1) 0 := by simp [sprV, hv]
    obtain ⟨hl, a, cap, rfl, h2⟩ := h
    rcases h2 with rfl | ⟨g, off, rfl, hg, hc⟩
    · have := (circB_iff.1 hv).2.1
      simp at this
    · exact sSpread_some p L hv g off cap _ e1.symm w hg hc
set_option maxHeartbeats 1000000 in
theorem iSpreadSize (p : Int) (v : Value) (L : List Gt) (w : World) (h : Gats w v L) :
    Calls Try.prog 73 #[.int .i64 p, v] w fun e w' => e = .returned (.int .i64 (sprV p L)) ∧ Below w.heap.size w w' := by
  cases hv : circB p L
  · have e1 : sprV p L = -1 := by simp [sprV, hv]
    rw [e1]
    have HV := Lib.hid hv
    have HG := Lib.hid h
    clear hv e1 h
    go_enter Try.func73, Try.ntmps73
    go_wp2_with fail
    refine (iCircuitValid p _ L _ HG.out).mono ?_
    rintro e w1 ⟨he, hb1⟩
    rw [HV.out] at he
    subst he
    have B1 := hb1
    clear hb1
    go_wp2_with fail
    go_ret
    exact ⟨rfl, B1⟩
  · have e1 : sprV p L = (sizL L L.length).getD (L.length - 1) 0 := by simp [sprV, hv]
    obtain ⟨hl, a, cap, rfl, h2⟩ := h
    rcases h2 with rfl | ⟨g, off, rfl, hg, hc⟩
    · have := (circB_iff.1 hv).2.1
      simp at this
    · exact iSpread_some p L hv g off cap _ e1.symm w hg hc
end Go.Proofs.Ytegkcfinklcglaa
namespace Go.Proofs.Ytegkcfinklcglaa
open Go.RowKit
/-- a gate whose parts lie so many gates further on -/
def movG (n : Int) (x : Gt) : Gt := if joinsB x then ⟨x.k, x.a + n, x.b + n⟩ else x
/-- the gates of two circuits and the gate that joins them -/
def joinL (L M : List Gt) (k : Int) : List Gt := L ++ M.map (movG L.length) ++ [⟨k, L.length - 1, L.length + M.length - 1⟩]
def joinB (p : Int) (L M : List Gt) (k : Int) : Bool := (circB p L && circB p M) && (inB k 2 3 && decide (L.length + M.length < 60))
def joinV (p : Int) (L M : List Gt) (k : Int) : List Gt := if joinB p L M k then joinL L M k else []
theorem flat_read {w : World} {g off : Nat} {L : List Gt} (hc : ∀ j : Nat, j < L.length → GAt w g (off + j * 3) (L.getD j default)) :
    ∀ (i : Nat) (u : Value), (flatG L)[i]? = some u → w.cell? ⟨g, off + i, none⟩ = some u := by
  intro i u hu
  have hi : i < (flatG L).length := by
    rcases Nat.lt_or_ge i (flatG L).length with h | h
    · exact h
    · rw [List.getElem?_eq_none h] at hu; cases hu
  rw [flatG_len] at hi
  have hj : i / 3 < L.length := by omega
  have hd : i % 3 < 3 := by omega
  have e : i = i / 3 * 3 + i % 3 := by omega
  rw [e, flatG_at L (i / 3) (i % 3) hj hd] at hu
  obtain ⟨h0, h1, h2⟩ := hc (i / 3) hj
  have : i % 3 = 0 ∨ i % 3 = 1 ∨ i % 3 = 2 := by omega
  rcases this with h | h | h
  · rw [h] at hu; simp [Gt.cs] at hu; subst hu
    rw [show off + i = off + i / 3 * 3 by omega]; exact h0
  · rw [h] at hu; simp [Gt.cs] at hu; subst hu
    rw [show off + i = off + i / 3 * 3 + 1 by omega]; exact h1
  · rw [h] at hu; simp [Gt.cs] at hu; subst hu
    rw [show off + i = off + i / 3 * 3 + 2 by omega]; exact h2
theorem flatG_all : ∀ (L : List Gt) (u : Value), u ∈ flatG L → u.oneCell' = true := flatG_cell
theorem take_snoc {L : List Gt} {k : Nat} (h : k < L.length) (f : Gt → Gt) : (L.map f).take (k + 1) = (L.map f).take k ++ [f (L.getD k default)] := by
  rw [List.take_succ_eq_append_getElem (by simpa using h)]
  simp [List.getD_eq_getElem?_getD, h]
theorem joinB_iff {p k : Int} {L M : List Gt} : joinB p L M k = true ↔ circB p L = true ∧ circB p M = true ∧ (k = 2 ∨ k = 3) ∧ L.length + M.length < 60 := by
  unfold joinB inB
  simp only [Bool.and_eq_true, decide_eq_true_eq]
  constructor
  · rintro ⟨⟨h1, h2⟩, ⟨h3, h4⟩, h5⟩; exact ⟨h1, h2, by omega, h5⟩
  · rintro ⟨h1, h2, h3, h4⟩; exact ⟨⟨h1, h2⟩, ⟨by omega, by omega⟩, h4⟩
theorem gats_some {p : Int} {w : World} {v : Value} {L : List Gt} (h : Gats w v L) (hv : circB p L = true) :
    ∃ g off cap, v = .slice (some ⟨g, off, none⟩) L.length cap ∧ g < w.heap.size ∧ ∀ j : Nat, j < L.length → GAt w g (off + j * 3) (L.getD j default) := by
  obtain ⟨_, a, cap, rfl, h2⟩ := h
  rcases h2 with rfl | ⟨g, off, rfl, hg, hc⟩
  · have := (circB_iff.1 hv).2.1; simp at this
  · exact ⟨g, off, cap, rfl, hg, hc⟩
theorem addr_add (g o j : Nat) : (⟨g, o, none⟩ : Addr).add j = ⟨g, o + j, none⟩ := by simp [Addr.add]
theorem RowGt.read {w : World} {B g n cap : Nat} {L : List Gt} (h : RowGt w B (.slice (some ⟨g, 0, none⟩) n cap) L) : ∀ (i : Nat) (u : Value), (flatG L)[i]? = some u → w.cell? ((⟨g, 0, none⟩ : Addr).add i) = some u := by
  intro i u hu
  have hn : n = L.length := by
    rcases h.shape with ⟨e, _⟩ | ⟨g', cap', e, _⟩
    · cases e
    · injection e
  subst hn
  have := flat_read (off := 0) (fun j hj => by rw [Nat.zero_add]; exact RowGt.tat h rfl hj) i u hu
  rw [addr_add]; exact this
end Go.Proofs.Ytegkcfinklcglaa
