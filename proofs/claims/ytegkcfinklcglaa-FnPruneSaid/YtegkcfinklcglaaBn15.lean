/-
  The walk of the law of PruneCircuit. Conditions: none but that the bytes can be read.
-/
import Derived.Test.YtegkcfinklcglaaBn9
import Derived.Test.YtegkcfinklcglaaBn11
import Derived.Test.YtegkcfinklcglaaBn5
import Derived.Test.YtegkcfinklcglaaBp24
import Derived.Test.YtegkcfinklcglaaBn14
import Derived.Test.YtegkcfinklcglaaBn4
import Derived.Test.YtegkcfinklcglaaBn7
import Derived.Test.YtegkcfinklcglaaBn2
import Derived.Test.YtegkcfinklcglaaBn3
namespace Go.Proofs.Ytegkcfinklcglaa
open Go.RowKit
set_option maxHeartbeats 1000000 in
theorem drawPrune (a : Option Addr) (len cap : Nat) (w : World) (h : ByteRow w a len cap) :
    Calls Try.prog 53 #[.slice a len cap] w (DrawC w) := by
  go_enter Try.func53, Try.ntmps53
  go_wp2_with fail
  refine (open_any a len cap w h).mono ?_
  rintro e w1 ⟨a1, l1, c1, rfl, hR1, hb1⟩
  go_wp2_with fail
  refine (circ_any w.heap.size a1 l1 c1 0 w1 hR1 (by omega)).mono ?_
  rintro e w2 ⟨p, v, M, q, rfl, hp, hM, hq, hR2, hr2, hn2, hg2⟩
  have hO := Lib.hid ((hr2.mono hb1.size).own (by omega))
  have hB := Lib.hid (below_reader' hb1 hg2)
  clear hR1 hR2 hr2 hb1 hg2
  go_wp2_with fail
  refine bodyPost_ret (v := .tuple #[.int .i64 p, v]) (by simp [results, Try.results53, go_sem]) rfl ⟨p, v, M, rfl, hp, hM, hO.out, hn2, hB.out⟩
abbrev VG := Value × List Gt
abbrev VI := Value × List Int
/-- gates, numbers and polynomials that read behind a world -/
structure NK (w0 : World) (gs : List VG) (us : List VI) (zs : List VT) (wr : World) : Prop where
  low : Below w0.heap.size w0 wr
  g : ∀ q ∈ gs, Gats wr q.1 q.2
  u : ∀ q ∈ us, Ints wr q.1 q.2
  t : ∀ q ∈ zs, Trms wr q.1 q.2
theorem NK.on {w0 wr w' : World} {gs : List VG} {us : List VI} {zs : List VT} (h : NK w0 gs us zs wr) (hb : Below wr.heap.size wr w') : NK w0 gs us zs w' :=
  ⟨h.low.trans (hb.mono h.low.size), fun q hq => (h.g q hq).below hb, fun q hq => (h.u q hq).below hb, fun q hq => (h.t q hq).below hb⟩
theorem NK.addG {w0 wr : World} {gs : List VG} {us : List VI} {zs : List VT} (h : NK w0 gs us zs wr) {v : Value} {L : List Gt} (hv : Gats wr v L) : NK w0 ((v, L) :: gs) us zs wr :=
  ⟨h.low, fun q hq => by
    rcases List.mem_cons.1 hq with rfl | hq
    · exact hv
    · exact h.g q hq, h.u, h.t⟩
theorem NK.addU {w0 wr : World} {gs : List VG} {us : List VI} {zs : List VT} (h : NK w0 gs us zs wr) {v : Value} {L : List Int} (hv : Ints wr v L) : NK w0 gs ((v, L) :: us) zs wr :=
  ⟨h.low, h.g, fun q hq => by
    rcases List.mem_cons.1 hq with rfl | hq
    · exact hv
    · exact h.u q hq, h.t⟩
theorem NK.addT {w0 wr : World} {gs : List VG} {us : List VI} {zs : List VT} (h : NK w0 gs us zs wr) {v : Value} {L : List Trm} (hv : Trms wr v L) : NK w0 gs us ((v, L) :: zs) wr :=
  ⟨h.low, h.g, h.u, fun q hq => by
    rcases List.mem_cons.1 hq with rfl | hq
    · exact hv
    · exact h.t q hq⟩
theorem NK.gg {w0 wr : World} {gs : List VG} {us : List VI} {zs : List VT} (h : NK w0 gs us zs wr) {v : Value} {L : List Gt} (hm : (v, L) ∈ gs) : Gats wr v L := h.g _ hm
theorem NK.uu {w0 wr : World} {gs : List VG} {us : List VI} {zs : List VT} (h : NK w0 gs us zs wr) {v : Value} {L : List Int} (hm : (v, L) ∈ us) : Ints wr v L := h.u _ hm
theorem NK.tt {w0 wr : World} {gs : List VG} {us : List VI} {zs : List VT} (h : NK w0 gs us zs wr) {v : Value} {L : List Trm} (hm : (v, L) ∈ zs) : Trms wr v L := h.t _ hm
theorem drawn_low {w w' : World} (h : Drawn w w') : Below w.heap.size w w' := h.below _
theorem NK.one {w0 wr : World} {v : Value} {L : List Gt} (hb : Below w0.heap.size w0 wr) (h : Gats wr v L) : NK w0 [(v, L)] [] [] wr := by
  refine ⟨hb, fun q hq => ?_, fun q hq => ?_, fun q hq => ?_⟩
  · rw [List.mem_singleton.1 hq]; exact h
  · cases hq
  · cases hq
/-- all that the law of PruneCircuit asks -/
structure PrnF (p : Int) (G R : List Gt) : Prop where
  c2 : costV p R 2 = costV p G 2
  c3 : costV p R 3 = costV p G 3
  ok : pcOk p R = pcOk p G
  po : pcV p R = pcV p G
  ag : prnV p R = R
  cb : circB p R = true
  le : (useV p G).length = R.length
  de : depV p R = depV p G
  fd : fdgV p R = fdgV p G
theorem prnF {p : Int} {G : List Gt} (hv : circB p G = true) : prnV p G = prR G ∧ PrnF p G (prR G) := by
  have e : ∀ L, circB p L = true → prnV p L = prR L := fun L h => by unfold prnV; rw [if_pos h]; rfl
  have hl := (circB_iff.1 hv).2.2.1
  refine ⟨e G hv, costV_prn hv 2, costV_prn hv 3, pcOk_prn hv, pcV_prn hv, by rw [e _ (prR_circ hv), prR_again hv], prR_circ hv, ?_, depV_prn hv, fdgV_prn hv⟩
  unfold useV
  rw [if_pos hv, (prnL_out hv hl).2, prR_len]
  rfl
set_option maxRecDepth 100000 in
set_option maxHeartbeats 16000000 in
theorem wPrune_in (a : Option Addr) (len cap : Nat) (w : World) (h : ByteRow w a len cap) (hl : len ≤ 1048576) :
    Calls Try.prog 10 #[.slice a len cap] w fun e w' => e = .returned (.bool true) ∧ Below w.heap.size w w' := by
  have hlp : (len : Int) ≤ 1048576 := by omega
  have HD := Lib.hid (drawPrune a len cap w h)
  clear h
  go_enter Try.func10, Try.ntmps10
  go_wp2_with fail
  refine HD.out.mono ?_
  rintro e w1 ⟨p, c, G, rfl, -, hG, ho1, -, hb1⟩
  have HK1 := Lib.hid (show NK w [(c, G)] [] [] w1 from NK.one hb1 ho1.gats)
  clear ho1 hb1 HD
  go_wp2_with fail
  refine (iPruneCircuit p c G w1 (HK1.out.gg (by simp))).mono ?_
  rintro e w2 ⟨dv, rfl, ho, hb⟩
  have HK2 := Lib.hid ((HK1.out.on hb).addG ho.gats)
  clear ho hb HK1
  go_wp2_with fail
  refine (sPruneCircuit p c G w2 (HK2.out.gg (by simp))).mono ?_
  rintro e w3 ⟨wv, rfl, ho, hb⟩
  have HK3 := Lib.hid ((HK2.out.on hb).addG ho.gats)
  clear ho hb HK2
  go_wp2_with fail
  refine (iUsedGates p c G w3 (HK3.out.gg (by simp))).mono ?_
  rintro e w4 ⟨uv, rfl, ho, hb⟩
  have HK4 := Lib.hid ((HK3.out.on hb).addU ho.ints)
  clear ho hb HK3
  obtain ⟨ok, hok⟩ : ∃ ok, ok = circB p G := ⟨_, rfl⟩
  have HOK := Lib.hid hok
  rw [← hok]
  clear hok
  have hbb : (ok != ok) = false := by cases ok <;> rfl
  go_wp2_with fail
  refine (sameGats dv wv (prnV p G) w4 (HK4.out.gg (by simp)) (HK4.out.gg (by simp))).mono ?_
  rintro e w5 ⟨rfl, hd⟩
  have HK5 := Lib.hid (HK4.out.on (drawn_low hd))
  clear hd HK4
  go_wp2_with fail
  refine (sUsedGates p c G w5 (HK5.out.gg (by simp))).mono ?_
  rintro e w6 ⟨uw, rfl, ho, hb⟩
  have HK6 := Lib.hid ((HK5.out.on hb).addU ho.ints)
  clear ho hb HK5
  go_wp2_with fail
  refine (sameInts uv uw (useV p G) w6 (HK6.out.uu (by simp)) (HK6.out.uu (by simp))).mono ?_
  rintro e w7 ⟨rfl, hd⟩
  have HK7 := Lib.hid (HK6.out.on (drawn_low hd))
  clear hd HK6
  cases ok
  · go_wp2_with fail
    refine (sameGats dv wv (prnV p G) w7 (HK7.out.gg (by simp)) (HK7.out.gg (by simp))).mono ?_
    rintro e w8 ⟨rfl, hd⟩
    have HK8 := Lib.hid (HK7.out.on (drawn_low hd))
    clear hd HK7
    go_wp2_with fail
    refine (sUsedGates p c G w8 (HK8.out.gg (by simp))).mono ?_
    rintro e w9 ⟨ux, rfl, ho, hb⟩
    have HK9 := Lib.hid ((HK8.out.on hb).addU ho.ints)
    clear ho hb HK8
    go_wp2_with fail
    refine (sameInts uv ux (useV p G) w9 (HK9.out.uu (by simp)) (HK9.out.uu (by simp))).mono ?_
    rintro e w10 ⟨rfl, hd⟩
    have HK10 := Lib.hid (HK9.out.on (drawn_low hd))
    clear hd HK9
    go_wp2_with fail
    go_ret
    exact ⟨rfl, HK10.out.low⟩
  · obtain ⟨e0, hF⟩ := prnF HOK.out.symm
    rw [e0] at HK7
    generalize prR G = R at HK7 hF
    obtain ⟨Z, hZ⟩ : ∃ Z, Z = useV p G := ⟨_, rfl⟩
    rw [← hZ] at HK7
    have HZ := Lib.hid (show Z.length = R.length by rw [hZ]; exact hF.le)
    have HF := Lib.hid hF
    clear hF hZ e0 HOK hbb
    obtain ⟨_, da, dc, rfl, hdl⟩ := HK7.out.gg (v := dv) (L := R) (by simp)
    obtain ⟨_, ua, uc, rfl, hul⟩ := HK7.out.uu (v := uv) (L := Z) (by simp)
    clear hdl hul
    rw [HZ.out] at HK7 ⊢
    go_wp2_with fail
    refine (iCostOf p c G w7 (HK7.out.gg (by simp))).mono ?_
    rintro e w8 ⟨rfl, hb⟩
    have HK8 := Lib.hid (HK7.out.on hb)
    clear hb HK7
    go_wp2_with fail
    refine (sCostOf p c G w8 (HK8.out.gg (by simp))).mono ?_
    rintro e w9 ⟨rfl, hb⟩
    have HK9 := Lib.hid (HK8.out.on hb)
    clear hb HK8
    go_wp2_with fail
    refine (iCostOf p _ R w9 (HK9.out.gg (by simp))).mono ?_
    rw [HF.out.c2, HF.out.c3]
    rintro e w10 ⟨rfl, hb⟩
    have HK10 := Lib.hid (HK9.out.on hb)
    clear hb HK9
    generalize costV p G 2 = k2
    generalize costV p G 3 = k3
    go_wp2_with fail
    refine (iPolyOfCircuit p c G w10 (HK10.out.gg (by simp))).mono ?_
    rintro e w11 ⟨fv, rfl, ho, hb⟩
    have HK11 := Lib.hid ((HK10.out.on hb).addT ho.trms)
    clear ho hb HK10
    go_wp2_with fail
    refine (iPolyOfCircuit p _ R w11 (HK11.out.gg (by simp))).mono ?_
    rw [HF.out.ok, HF.out.po]
    rintro e w12 ⟨gv, rfl, ho, hb⟩
    have HK12 := Lib.hid ((HK11.out.on hb).addT ho.trms)
    clear ho hb HK11
    generalize pcV p G = P at HK12
    generalize pcOk p G = fine
    have hff : (fine == fine) = true := by cases fine <;> rfl
    go_wp2_with fail
    refine (iPruneCircuit p _ R w12 (HK12.out.gg (by simp))).mono ?_
    rw [HF.out.ag, HF.out.cb]
    rintro e w13 ⟨av, rfl, ho, hb⟩
    have HK13 := Lib.hid ((HK12.out.on hb).addG ho.gats)
    clear ho hb HK12
    go_wp2_with fail
    refine (acP fv gv P w13 (HK13.out.tt (by simp)) (HK13.out.tt (by simp))).mono ?_
    rintro e w14 ⟨rfl, hb⟩
    have HK14 := Lib.hid (HK13.out.on hb)
    clear hb HK13
    go_wp2_with fail
    refine (sameGats av _ R w14 (HK14.out.gg (by simp)) (HK14.out.gg (by simp))).mono ?_
    rintro e w15 ⟨rfl, hd⟩
    have HK15 := Lib.hid (HK14.out.on (drawn_low hd))
    clear hd HK14
    go_wp2_with fail
    refine (iDepthOf p _ R w15 (HK15.out.gg (by simp))).mono ?_
    rw [HF.out.de]
    rintro e w16 ⟨rfl, hb⟩
    have HK16 := Lib.hid (HK15.out.on hb)
    clear hb HK15
    go_wp2_with fail
    refine (iDepthOf p c G w16 (HK16.out.gg (by simp))).mono ?_
    rintro e w17 ⟨rfl, hb⟩
    have HK17 := Lib.hid (HK16.out.on hb)
    clear hb HK16
    generalize depV p G = dd
    go_wp2_with fail
    refine (iFormalDegree p _ R w17 (HK17.out.gg (by simp))).mono ?_
    rw [HF.out.fd]
    rintro e w18 ⟨rfl, hb⟩
    have HK18 := Lib.hid (HK17.out.on hb)
    clear hb HK17
    go_wp2_with fail
    refine (iFormalDegree p c G w18 (HK18.out.gg (by simp))).mono ?_
    rintro e w19 ⟨rfl, hb⟩
    have HK19 := Lib.hid (HK18.out.on hb)
    clear hb HK18
    generalize fdgV p G = fd
    go_wp2_with fail
    go_ret
    exact ⟨rfl, HK19.out.low⟩
set_option maxRecDepth 100000 in
set_option maxHeartbeats 4000000 in
theorem wPrune (a : Option Addr) (len cap : Nat) (w : World) (h : ByteRow w a len cap) :
    Calls Try.prog 10 #[.slice a len cap] w fun e w' => e = .returned (.bool true) ∧ Below w.heap.size w w' := by
  by_cases hl : len ≤ 1048576
  · exact wPrune_in a len cap w h hl
  · have hp : (1048576 : Int) < (len : Int) := by omega
    have h1 := Nat.le_trans h.1 h.2.1
    clear h
    go_enter Try.func10, Try.ntmps10
    go_wp2_with fail
    go_ret
    exact ⟨rfl, Below.refl _ _⟩
end Go.Proofs.Ytegkcfinklcglaa
