/-
  Contracts of the program's FormalDegree, and of both functions of both for any list of gates. Conditions: what the slice holds is known.
-/
import Derived.Test.YtgbjchidnnmifaaDepI
namespace Go.Proofs.Ytgbjchidnnmifaa
open Go.RowKit
set_option maxRecDepth 100000 in
set_option maxHeartbeats 4000000 in
theorem iFdg_some (p : Int) (L : List Gt) (hv : circB p L = true) (g off cap : Nat) (r : Int) (hr : (degL L L.length).getD (L.length - 1) 0 = r) (w : World) (hg : g < w.heap.size)
    (hc : ∀ j : Nat, j < L.length → GAt w g (off + j * 3) (L.getD j default)) :
    Calls Try.prog 14 #[.int .i64 p, .slice (some ⟨g, off, none⟩) L.length cap] w fun e w' => e = .returned (.int .i64 r) ∧ Below w.heap.size w w' := by
  obtain ⟨hp, hl1, hl2, hall⟩ := circB_iff.1 hv
  have HC := Lib.hid hc
  have HV := Lib.hid hv
  have HR := Lib.hid hr
  clear hr
  have HA := Lib.hid hall
  have hG : Gats w (.slice (some ⟨g, off, none⟩) L.length cap) L := ⟨by omega, _, _, rfl, .inr ⟨g, off, rfl, hg, hc⟩⟩
  have HG := Lib.hid hG
  clear hc hv hall hp hG
  go_enter Try.func14, Try.ntmps14
  go_wp2_with fail
  refine (iCircuitValid p _ L _ HG.out).mono ?_
  rintro e w1 ⟨he, hb1⟩
  rw [HV.out] at he
  subst he
  obtain ⟨G, hG⟩ : ∃ G, G = w1.heap.size := ⟨_, rfl⟩
  have hGw : w.heap.size ≤ G := by rw [hG]; exact hb1.size
  have A0 : ArrI (w1.alloc (.cells (Array.replicate 60 (.int .i64 0)) 57)) G [] := by rw [hG]; exact ArrI.new w1 _
  have B0 : Below w.heap.size w (w1.alloc (.cells (Array.replicate 60 (.int .i64 0)) 57)) := Below.alloc hb1 hb1.size _
  clear hb1
  go_wp2_with fail
  rw [← hG]
  go_loopw [14] (fun i wr => ∃ k : Nat, k ≤ L.length ∧ i = .int .i64 k ∧ ArrI wr G (degL L k) ∧ Below w.heap.size w wr) (fun i _ => L.length - (intOf i).toNat)
  case atStart => exact ⟨0, by omega, rfl, A0, B0⟩
  case round =>
    clear A0 B0 hG
    obtain ⟨k, hk, rfl, hR, hb⟩ := hrel
    by_cases hlt : k < L.length
    · have hltp : (k : Int) < (L.length : Int) := by omega
      have hk0 : (0 : Int) ≤ (k : Int) := by omega
      obtain ⟨a0, a1, a2⟩ := (HC.out k hlt).below hb hg
      have hx0 := HA.out k hlt
      obtain ⟨x, hx⟩ : ∃ x, x = L.getD k default := ⟨_, rfl⟩
      rw [← hx] at a0 a1 a2
      rw [← gat_mk hx] at hx0
      have hcs := gOK_cases hx0
      simp only at hcs
      have Hb := Lib.hid hb
      have hs := hb.size
      have hlen : (degL L k).length = k := degL_len L k
      obtain ⟨xk, xa, xb⟩ := x
      simp only at a0 a1 a2 hcs
      by_cases hk2 : xk = 2
      · subst hk2
        obtain ⟨ja, rfl⟩ := Int.eq_ofNat_of_zero_le (show 0 ≤ xa by omega)
        obtain ⟨jb, rfl⟩ := Int.eq_ofNat_of_zero_le (show 0 ≤ xb by omega)
        have hja : ja < k := by omega
        have hjb : jb < k := by omega
        obtain ⟨da, hda⟩ : ∃ d, d = (degL L k).getD ja 0 := ⟨_, rfl⟩
        obtain ⟨db, hdb⟩ : ∃ d, d = (degL L k).getD jb 0 := ⟨_, rfl⟩
        have b1 := degL_bd L k ja
        have b2 := degL_bd L k jb
        rw [← hda] at b1
        rw [← hdb] at b2
        obtain ⟨m, hm⟩ : ∃ m, (if da < db then db else da) = m := ⟨_, rfl⟩
        have hmm : max da db = m := by rw [← hm]; split <;> omega
        have hm0 : 0 ≤ m ∧ m ≤ 1000 := by rw [← hm]; split <;> omega
        have HE := Lib.hid (show degL L (k + 1) = degL L k ++ [m] by
          have e : gAt L k = ⟨2, ja, jb⟩ := (gat_mk hx).symm
          rw [← hmm, hda, hdb]
          simp [degL, e])
        obtain ⟨W, hW⟩ : ∃ W, W = wr.alloc (Obj.cells #[.int .i64 2, .int .i64 ja, .int .i64 jb] 32) := ⟨_, rfl⟩
        have bW : Below wr.heap.size wr W := by rw [hW]; exact Below.alloc (Below.refl _ _) (Nat.le_refl _) _
        have c1 : W.cell? ⟨wr.heap.size, 1, none⟩ = some (.int .i64 ja) := by rw [hW]; simp [go_sem]
        have c2 : W.cell? ⟨wr.heap.size, 2, none⟩ = some (.int .i64 jb) := by rw [hW]; simp [go_sem]
        have ht : wr.heap.size < W.heap.size := by rw [hW]; simp
        have A1 := hR.below bW hR.1
        have B1 := hb.trans (bW.mono hs)
        have hG1 := A1.1
        obtain ⟨d0, _⟩ := A1.2 ja (by omega)
        obtain ⟨d1, _⟩ := A1.2 jb (by omega)
        obtain ⟨dk, fk⟩ := A1.2 k (by omega)
        rw [← hda] at d0
        rw [← hdb] at d1
        have hGr := hR.1
        have ja60 : (ja : Int) < 60 := by omega
        have jb60 : (jb : Int) < 60 := by omega
        have k60 : (k : Int) < 60 := by omega
        have ja0 : (0 : Int) ≤ ja := by omega
        have jb0 : (0 : Int) ≤ jb := by omega
        have HA1 := Lib.hid A1
        have HB1 := Lib.hid B1
        have HW := Lib.hid hW
        clear hx hR hb hx0 hcs hda hdb hmm A1 B1 bW hW
        go_wp2_with fail
        rw [← HW.out]
        clear HW a0 a1 a2
        go_region_held3 (fun w' => w'.cell? ⟨wr.heap.size, 1, none⟩ = some (.int .i64 ja) ∧ w'.cell? ⟨wr.heap.size, 2, none⟩ = some (.int .i64 jb) ∧ w'.cell? ⟨G, ja, none⟩ = some (.int .i64 da) ∧ w'.cell? ⟨G, jb, none⟩ = some (.int .i64 db)) (first | (refine ⟨?_, ?_, ?_, ?_⟩ <;> (rw [World.cell?_drew, World.cell?_setCell_other _ _ _ _ (addr_ne (by omega))]; assumption)) | go_keep) (fail)
        have hR2 : ArrI (W.setCell ⟨G, k, none⟩ (.int .i64 m)).drew G (degL L (k + 1)) := by
          rw [HE.out]
          have h := HA1.out.set hlen (by omega) m
          exact h.below (Below.drew (Below.refl _ _)) h.1
        have hb2 : Below w.heap.size w (W.setCell ⟨G, k, none⟩ (.int .i64 m)).drew := Below.drew (HB1.out.setCell hGw _)
        clear c1 c2 d0 d1 dk fk
        go_wp2_with fail
        go_roundw
        case rel => exact ⟨k + 1, by omega, by go_num, hR2, hb2⟩
        case measure => simp [intOf]; omega
      by_cases hk3 : xk = 3
      · subst hk3
        obtain ⟨ja, rfl⟩ := Int.eq_ofNat_of_zero_le (show 0 ≤ xa by omega)
        obtain ⟨jb, rfl⟩ := Int.eq_ofNat_of_zero_le (show 0 ≤ xb by omega)
        have hja : ja < k := by omega
        have hjb : jb < k := by omega
        obtain ⟨da, hda⟩ : ∃ d, d = (degL L k).getD ja 0 := ⟨_, rfl⟩
        obtain ⟨db, hdb⟩ : ∃ d, d = (degL L k).getD jb 0 := ⟨_, rfl⟩
        have b1 := degL_bd L k ja
        have b2 := degL_bd L k jb
        rw [← hda] at b1
        rw [← hdb] at b2
        by_cases h7 : da + db < 1000
        · have hmm : min (da + db) 1000 = da + db := by omega
          have hw2 : IntKind.i64.wrap (da + db) = da + db := IntWalk.i64_in _ (by omega)
          have HE := Lib.hid (show degL L (k + 1) = degL L k ++ [da + db] by
            have e : gAt L k = ⟨3, ja, jb⟩ := (gat_mk hx).symm
            rw [← hmm, hda, hdb]
            simp [degL, e])
          obtain ⟨W, hW⟩ : ∃ W, W = wr.alloc (Obj.cells #[.int .i64 3, .int .i64 ja, .int .i64 jb] 32) := ⟨_, rfl⟩
          have bW : Below wr.heap.size wr W := by rw [hW]; exact Below.alloc (Below.refl _ _) (Nat.le_refl _) _
          have c1 : W.cell? ⟨wr.heap.size, 1, none⟩ = some (.int .i64 ja) := by rw [hW]; simp [go_sem]
          have c2 : W.cell? ⟨wr.heap.size, 2, none⟩ = some (.int .i64 jb) := by rw [hW]; simp [go_sem]
          have ht : wr.heap.size < W.heap.size := by rw [hW]; simp
          have A1 := hR.below bW hR.1
          have B1 := hb.trans (bW.mono hs)
          have hG1 := A1.1
          obtain ⟨d0, _⟩ := A1.2 ja (by omega)
          obtain ⟨d1, _⟩ := A1.2 jb (by omega)
          obtain ⟨dk, fk⟩ := A1.2 k (by omega)
          rw [← hda] at d0
          rw [← hdb] at d1
          have hGr := hR.1
          have ja60 : (ja : Int) < 60 := by omega
          have jb60 : (jb : Int) < 60 := by omega
          have k60 : (k : Int) < 60 := by omega
          have ja0 : (0 : Int) ≤ ja := by omega
          have jb0 : (0 : Int) ≤ jb := by omega
          have HA1 := Lib.hid A1
          have HB1 := Lib.hid B1
          have HW := Lib.hid hW
          clear hx hR hb hx0 hcs hda hdb hmm A1 B1 bW hW
          go_wp2_with fail
          rw [← HW.out]
          clear HW a0 a1 a2
          go_region_held3 (fun w' => w'.cell? ⟨wr.heap.size, 1, none⟩ = some (.int .i64 ja) ∧ w'.cell? ⟨wr.heap.size, 2, none⟩ = some (.int .i64 jb) ∧ w'.cell? ⟨G, ja, none⟩ = some (.int .i64 da) ∧ w'.cell? ⟨G, jb, none⟩ = some (.int .i64 db)) (first | (refine ⟨?_, ?_, ?_, ?_⟩ <;> (rw [World.cell?_drew, World.cell?_setCell_other _ _ _ _ (addr_ne (by omega))]; assumption)) | go_keep) (fail)
          have hR2 : ArrI (W.setCell ⟨G, k, none⟩ (.int .i64 (da + db))).drew G (degL L (k + 1)) := by
            rw [HE.out]
            have h := HA1.out.set hlen (by omega) (da + db)
            exact h.below (Below.drew (Below.refl _ _)) h.1
          have hb2 : Below w.heap.size w (W.setCell ⟨G, k, none⟩ (.int .i64 (da + db))).drew := Below.drew (HB1.out.setCell hGw _)
          clear c1 c2 d0 d1 dk fk
          go_wp2_with fail
          go_roundw
          case rel => exact ⟨k + 1, by omega, by go_num, hR2, hb2⟩
          case measure => simp [intOf]; omega
        · have hmm : min (da + db) 1000 = 1000 := by omega
          have hw2 : IntKind.i64.wrap (da + db) = da + db := IntWalk.i64_in _ (by omega)
          have HE := Lib.hid (show degL L (k + 1) = degL L k ++ [1000] by
            have e : gAt L k = ⟨3, ja, jb⟩ := (gat_mk hx).symm
            rw [← hmm, hda, hdb]
            simp [degL, e])
          obtain ⟨W, hW⟩ : ∃ W, W = wr.alloc (Obj.cells #[.int .i64 3, .int .i64 ja, .int .i64 jb] 32) := ⟨_, rfl⟩
          have bW : Below wr.heap.size wr W := by rw [hW]; exact Below.alloc (Below.refl _ _) (Nat.le_refl _) _
          have c1 : W.cell? ⟨wr.heap.size, 1, none⟩ = some (.int .i64 ja) := by rw [hW]; simp [go_sem]
          have c2 : W.cell? ⟨wr.heap.size, 2, none⟩ = some (.int .i64 jb) := by rw [hW]; simp [go_sem]
          have ht : wr.heap.size < W.heap.size := by rw [hW]; simp
          have A1 := hR.below bW hR.1
          have B1 := hb.trans (bW.mono hs)
          have hG1 := A1.1
          obtain ⟨d0, _⟩ := A1.2 ja (by omega)
          obtain ⟨d1, _⟩ := A1.2 jb (by omega)
          obtain ⟨dk, fk⟩ := A1.2 k (by omega)
          rw [← hda] at d0
          rw [← hdb] at d1
          have hGr := hR.1
          have ja60 : (ja : Int) < 60 := by omega
          have jb60 : (jb : Int) < 60 := by omega
          have k60 : (k : Int) < 60 := by omega
          have ja0 : (0 : Int) ≤ ja := by omega
          have jb0 : (0 : Int) ≤ jb := by omega
          have HA1 := Lib.hid A1
          have HB1 := Lib.hid B1
          have HW := Lib.hid hW
          clear hx hR hb hx0 hcs hda hdb hmm A1 B1 bW hW
          go_wp2_with fail
          rw [← HW.out]
          clear HW a0 a1 a2
          go_region_held3 (fun w' => w'.cell? ⟨wr.heap.size, 1, none⟩ = some (.int .i64 ja) ∧ w'.cell? ⟨wr.heap.size, 2, none⟩ = some (.int .i64 jb) ∧ w'.cell? ⟨G, ja, none⟩ = some (.int .i64 da) ∧ w'.cell? ⟨G, jb, none⟩ = some (.int .i64 db)) (first | (refine ⟨?_, ?_, ?_, ?_⟩ <;> (rw [World.cell?_drew, World.cell?_setCell_other _ _ _ _ (addr_ne (by omega))]; assumption)) | go_keep) (fail)
          have hR2 : ArrI (W.setCell ⟨G, k, none⟩ (.int .i64 (1000))).drew G (degL L (k + 1)) := by
            rw [HE.out]
            have h := HA1.out.set hlen (by omega) (1000)
            exact h.below (Below.drew (Below.refl _ _)) h.1
          have hb2 : Below w.heap.size w (W.setCell ⟨G, k, none⟩ (.int .i64 (1000))).drew := Below.drew (HB1.out.setCell hGw _)
          clear c1 c2 d0 d1 dk fk
          go_wp2_with fail
          go_roundw
          case rel => exact ⟨k + 1, by omega, by go_num, hR2, hb2⟩
          case measure => simp [intOf]; omega
      by_cases hk0' : xk = 0
      · subst hk0'
        have HE := Lib.hid (show degL L (k + 1) = degL L k ++ [1] by
          have e : gAt L k = ⟨0, xa, xb⟩ := (gat_mk hx).symm
          simp [degL, e])
        obtain ⟨dk, fk⟩ := hR.2 k (by omega)
        have hGr := hR.1
        have k60 : (k : Int) < 60 := by omega
        have hR1 : ArrI (wr.setCell ⟨G, k, none⟩ (.int .i64 1)) G (degL L (k + 1)) := by
          rw [HE.out]
          exact hR.set hlen (by omega) 1
        have hR2 : ArrI ((wr.setCell ⟨G, k, none⟩ (.int .i64 1)).alloc (Obj.cells #[.int .i64 0, .int .i64 xa, .int .i64 xb] 32)) G (degL L (k + 1)) := hR1.below (Below.alloc (Below.refl _ _) (Nat.le_refl _) _) hR1.1
        have hb2 : Below w.heap.size w ((wr.setCell ⟨G, k, none⟩ (.int .i64 1)).alloc (Obj.cells #[.int .i64 0, .int .i64 xa, .int .i64 xb] 32)) := Below.alloc (hb.setCell hGw _) (by simpa using hs) _
        clear hx hR hb hx0 hcs hR1
        go_wp2_with fail
        go_roundw
        case rel => exact ⟨k + 1, by omega, by go_num, hR2, hb2⟩
        case measure => simp [intOf]; omega
      · have hk1' : xk = 1 := by omega
        subst hk1'
        have HE := Lib.hid (show degL L (k + 1) = degL L k ++ [0] by
          have e : gAt L k = ⟨1, xa, xb⟩ := (gat_mk hx).symm
          simp [degL, e])
        have bW : Below wr.heap.size wr (wr.alloc (Obj.cells #[.int .i64 1, .int .i64 xa, .int .i64 xb] 32)) := Below.alloc (Below.refl _ _) (Nat.le_refl _) _
        have hR2 : ArrI (wr.alloc (Obj.cells #[.int .i64 1, .int .i64 xa, .int .i64 xb] 32)) G (degL L (k + 1)) := by rw [HE.out]; exact (hR.below bW hR.1).zero
        have hb2 := hb.trans (bW.mono hs)
        clear hx hR hb hx0 hcs bW
        go_wp2_with fail
        go_roundw
        case rel => exact ⟨k + 1, by omega, by go_num, hR2, hb2⟩
        case measure => simp [intOf]; omega
    · have hkl : k = L.length := by omega
      subst hkl
      obtain ⟨d0, _⟩ := hR.2 (L.length - 1) (by omega)
      rw [HR.out] at d0
      obtain ⟨n, hn⟩ : ∃ n, L.length = n + 1 := ⟨L.length - 1, by omega⟩
      rw [hn] at d0
      simp only [Nat.add_sub_cancel] at d0
      have hnn : (L.length : Int) - 1 = (n : Int) := by omega
      have hn1 : (n : Int) < 60 := by omega
      have hn0 : (0 : Int) ≤ n := by omega
      have HN := Lib.hid hnn
      clear hR hn hnn
      go_wp2_with (go_at_call 35; refine (iLast _ L.length _ n (by omega) HN.out _).mono ?_; rintro e w' ⟨rfl, rfl⟩)
      go_ret
      exact ⟨rfl, hb⟩
set_option maxHeartbeats 1000000 in
theorem sDepthOf (p : Int) (v : Value) (L : List Gt) (w : World) (h : Gats w v L) :
    Calls Try.prog 15 #[.int .i64 p, v] w fun e w' => e = .returned (.int .i64 (depV p L)) ∧ Below w.heap.size w w' := by
  cases hv : circB p L
  · have e1 : depV p L = -1 := by simp [depV, hv]
    rw [e1]
    have HV := Lib.hid hv
    have HG := Lib.hid (h.below (Below.alloc (Below.refl _ _) (Nat.le_refl _) _ : Below w.heap.size w (w.alloc (.cells #[] 3))))
    clear hv e1 h
    go_enter Try.func15, Try.ntmps15
    go_wp2_with fail
    refine (sCircuitValid p _ L _ HG.out).mono ?_
    rintro e w1 ⟨he, hb1⟩
    rw [HV.out] at he
    subst he
    have B1 : Below w.heap.size w w1 := (Below.alloc (Below.refl _ _) (Nat.le_refl _) _ : Below w.heap.size w (w.alloc (.cells #[] 3))).trans (hb1.mono (by simp))
    clear hb1
    go_wp2_with fail
    go_ret
    exact ⟨rfl, B1⟩
  · have e1 : depV p L = (depL L L.length).getD (L.length - 1) 0 := by simp [depV, hv]
    obtain ⟨hl, a, cap, rfl, h2⟩ := h
    rcases h2 with rfl | ⟨g, off, rfl, hg, hc⟩
    · have := (circB_iff.1 hv).2.1
      simp at this
    · exact sDep_some p L hv g off cap _ e1.symm w hg hc
set_option maxHeartbeats 1000000 in
theorem iDepthOf (p : Int) (v : Value) (L : List Gt) (w : World) (h : Gats w v L) :
    Calls Try.prog 13 #[.int .i64 p, v] w fun e w' => e = .returned (.int .i64 (depV p L)) ∧ Below w.heap.size w w' := by
  cases hv : circB p L
  · have e1 : depV p L = -1 := by simp [depV, hv]
    rw [e1]
    have HV := Lib.hid hv
    have HG := Lib.hid h
    clear hv e1 h
    go_enter Try.func13, Try.ntmps13
    go_wp2_with fail
    refine (iCircuitValid p _ L _ HG.out).mono ?_
    rintro e w1 ⟨he, hb1⟩
    rw [HV.out] at he
    subst he
    have B1 := hb1
    clear hb1
    go_wp2_with fail
    go_ret
    exact ⟨rfl, B1⟩
  · have e1 : depV p L = (depL L L.length).getD (L.length - 1) 0 := by simp [depV, hv]
    obtain ⟨hl, a, cap, rfl, h2⟩ := h
    rcases h2 with rfl | ⟨g, off, rfl, hg, hc⟩
    · have := (circB_iff.1 hv).2.1
      simp at this
    · exact iDep_some p L hv g off cap _ e1.symm w hg hc
set_option maxHeartbeats 1000000 in
theorem sFormalDegree (p : Int) (v : Value) (L : List Gt) (w : World) (h : Gats w v L) :
    Calls Try.prog 16 #[.int .i64 p, v] w fun e w' => e = .returned (.int .i64 (degV p L)) ∧ Below w.heap.size w w' := by
  cases hv : circB p L
  · have e1 : degV p L = -1 := by simp [degV, hv]
    rw [e1]
    have HV := Lib.hid hv
    have HG := Lib.hid (h.below (Below.alloc (Below.refl _ _) (Nat.le_refl _) _ : Below w.heap.size w (w.alloc (.cells #[] 3))))
    clear hv e1 h
    go_enter Try.func16, Try.ntmps16
    go_wp2_with fail
    refine (sCircuitValid p _ L _ HG.out).mono ?_
    rintro e w1 ⟨he, hb1⟩
    rw [HV.out] at he
    subst he
    have B1 : Below w.heap.size w w1 := (Below.alloc (Below.refl _ _) (Nat.le_refl _) _ : Below w.heap.size w (w.alloc (.cells #[] 3))).trans (hb1.mono (by simp))
    clear hb1
    go_wp2_with fail
    go_ret
    exact ⟨rfl, B1⟩
  · have e1 : degV p L = (degL L L.length).getD (L.length - 1) 0 := by simp [degV, hv]
    obtain ⟨hl, a, cap, rfl, h2⟩ := h
    rcases h2 with rfl | ⟨g, off, rfl, hg, hc⟩
    · have := (circB_iff.1 hv).2.1
      simp at this
    · exact sFdg_some p L hv g off cap _ e1.symm w hg hc
set_option maxHeartbeats 1000000 in
theorem iFormalDegree (p : Int) (v : Value) (L : List Gt) (w : World) (h : Gats w v L) :
    Calls Try.prog 14 #[.int .i64 p, v] w fun e w' => e = .returned (.int .i64 (degV p L)) ∧ Below w.heap.size w w' := by
  cases hv : circB p L
  · have e1 : degV p L = -1 := by simp [degV, hv]
    rw [e1]
    have HV := Lib.hid hv
    have HG := Lib.hid h
    clear hv e1 h
    go_enter Try.func14, Try.ntmps14
    go_wp2_with fail
    refine (iCircuitValid p _ L _ HG.out).mono ?_
    rintro e w1 ⟨he, hb1⟩
    rw [HV.out] at he
    subst he
    have B1 := hb1
    clear hb1
    go_wp2_with fail
    go_ret
    exact ⟨rfl, B1⟩
  · have e1 : degV p L = (degL L L.length).getD (L.length - 1) 0 := by simp [degV, hv]
    obtain ⟨hl, a, cap, rfl, h2⟩ := h
    rcases h2 with rfl | ⟨g, off, rfl, hg, hc⟩
    · have := (circB_iff.1 hv).2.1
      simp at this
    · exact iFdg_some p L hv g off cap _ e1.symm w hg hc
end Go.Proofs.Ytgbjchidnnmifaa
