/-
  MatrixAt of the program: the whole. Conditions: none but that the slices read as arrows.
  MatrixAt of the model. Conditions: none but that the slices read as arrows.
-/
import Derived.Test.YtlcmddghppdmgaaBp29
import Derived.Test.YtlcmddghppdmgaaBp22
import Derived.Shelf.Abstract
import Derived.Test.YtlcmddghppdmgaaBp24
import Derived.Test.YtlcmddghppdmgaaBp3
namespace Go.Proofs.Ytlcmddghppdmgaa
set_option linter.unusedVariables false
open Go.RowKit Go.Shelf
theorem iMat1 (bg bp ba : Nat) (p n : Int) (v : Value) (A : List Arr) (x y z : Int) (i k : Nat) (w : World) (h : Arrs w v A) (hv : maB p n A x y z = true) (hi : i < 5) (hk : k < 5)
    (k0 : w.cell? ⟨bg, 0, none⟩ = some (.int .i64 n)) (k1 : w.cell? ⟨bg, 1, none⟩ = some v) (k2 : w.cell? ⟨bp, 0, none⟩ = some (.int .i64 p)) (k3 : PtAt w ba x y z) :
    Calls Try.prog 88 #[.int .i64 i, .int .i64 k, .pointer (some ⟨bg, 0, none⟩), .pointer (some ⟨bp, 0, none⟩), .pointer (some ⟨ba, 0, none⟩)] w fun e w' => e = .returned (.int .i64 (elP p (evA p x y z A) A A.length i k)) ∧ Below w.heap.size w w' := by
  have HE := Lib.hid (iElt p n v A x y z i k w h hv hi hk)
  obtain ⟨p0, p1, p2⟩ := k3
  obtain ⟨_, _, a, cap, rfl, _⟩ := h
  have hkp : (k : Int) < 5 := by omega
  have hk0 : (0 : Int) ≤ (k : Int) := by omega
  clear hv
  go_enter Try.func88, Try.ntmps88
  go_wp2_with fail
  refine HE.out.mono ?_
  rintro e w1 ⟨rfl, hb⟩
  have HB := Lib.hid hb
  clear hb p0 p1 p2 k0 k1 k2
  go_wp2_with fail
  go_ret
  exact ⟨rfl, HB.out⟩
theorem enMat (args : Array Value) (w : World) : (callFunc 88 args).run Try.prog w = .ok (.enter 88 args) w := enters_of Try.func88 (by kernel_rfl) rfl args w
set_option maxRecDepth 100000 in
set_option maxHeartbeats 4000000 in
theorem iMatAt (p n : Int) (v : Value) (A : List Arr) (x y z : Int) (w : World) (h : Arrs w v A) :
    Calls Try.prog 25 #[.int .i64 p, .agg #[.int .i64 n, v], .agg #[.int .i64 x, .int .i64 y, .int .i64 z]] w fun e w' => ∃ u, e = .returned (.tuple #[u, .bool (maB p n A x y z)]) ∧ OwnMat w' w.heap.size u (maV p n A x y z) ∧ Below w.heap.size w w' := by
  obtain ⟨W, hW⟩ : ∃ W, W = ((w.alloc (Obj.cells #[.int .i64 p] 3)).alloc (Obj.cells #[.int .i64 n, v] 29)).alloc (Obj.cells #[.int .i64 x, .int .i64 y, .int .i64 z] 33) := ⟨_, rfl⟩
  have hbW : Below w.heap.size w W := by rw [hW]; exact (by repeat (first | exact Below.refl _ _ | apply Below.drew | apply below_drewN | (refine Below.alloc ?_ (by first | omega | (simp <;> omega)) _)))
  have hs : w.heap.size + 2 < W.heap.size := by rw [hW]; simp
  have kp : W.cell? ⟨w.heap.size, 0, none⟩ = some (.int .i64 p) := by rw [hW]; simp [go_sem]
  have kn : W.cell? ⟨w.heap.size + 1, 0, none⟩ = some (.int .i64 n) := by rw [hW]; simp [go_sem]
  have kg : W.cell? ⟨w.heap.size + 1, 1, none⟩ = some v := by rw [hW]; simp [go_sem]
  have ka : PtAt W (w.heap.size + 2) x y z := by rw [hW]; refine ⟨?_, ?_, ?_⟩ <;> simp [go_sem]
  have HK := Lib.hid (fun w' (hb : Below W.heap.size W w') => show w'.cell? ⟨w.heap.size, 0, none⟩ = some (.int .i64 p) ∧ w'.cell? ⟨w.heap.size + 1, 0, none⟩ = some (.int .i64 n) ∧ w'.cell? ⟨w.heap.size + 1, 1, none⟩ = some v ∧ PtAt w' (w.heap.size + 2) x y z from
    ⟨by rw [hb.cell (p := ⟨w.heap.size, 0, none⟩) (by show w.heap.size < _; omega)]; exact kp, by rw [hb.cell (p := ⟨w.heap.size + 1, 0, none⟩) (by show w.heap.size + 1 < _; omega)]; exact kn, by rw [hb.cell (p := ⟨w.heap.size + 1, 1, none⟩) (by show w.heap.size + 1 < _; omega)]; exact kg, ka.below hb hs⟩)
  have HH := Lib.hid (fun W2 (hb : Below w.heap.size w W2) => iHasV p n v A x y z W2 (h.below hb))
  have HA := Lib.hid (fun W2 (hb : Below w.heap.size w W2) => h.below hb)
  have HWE := Lib.hid hW
  have HBW := Lib.hid hbW
  cases hv : maB p n A x y z
  · rw [hv] at HH
    have HF := Lib.hid (show maV p n A x y z = [] by simp [maV, hv])
    obtain ⟨_, _, a, cap, rfl, _⟩ := h
    clear hW hv kp kn kg ka hbW
    go_enter Try.func25, Try.ntmps25
    go_wp2_with fail
    rw [← HWE.out]
    refine (HH.out W HBW.out).mono ?_
    rintro e w1 ⟨rfl, hb1⟩
    have HB := Lib.hid (HBW.out.trans (hb1.mono HBW.out.size))
    clear hb1
    go_wp2_with fail
    rw [HF.out]
    refine bodyPost_ret (v := .tuple #[.slice none 0 0, .bool false]) (by simp [results, Try.results25, go_sem]) rfl ⟨_, rfl, OwnMat.nil _ _ _ _, HB.out⟩
  · rw [hv] at HH
    have hpv : prgB p n A = true := by simp only [maB, Bool.and_eq_true] at hv; exact hv.1
    obtain ⟨_, ⟨hn2, hn5⟩, _⟩ := prgB_iff.1 hpv
    obtain ⟨m, hm⟩ := Int.eq_ofNat_of_zero_le (show 0 ≤ n - 1 by omega)
    have HF := Lib.hid (show maV p n A x y z = matF m (elP p (evA p x y z A) A A.length) m by simp [maV, hv, hm])
    have HN := Lib.hid (fun W2 (hb : Below W.heap.size W W2) => iNew m m (by omega) (by omega) (by omega) (by omega) (elP p (evA p x y z A) A A.length) 88 #[.pointer (some ⟨w.heap.size + 1, 0, none⟩), .pointer (some ⟨w.heap.size, 0, none⟩), .pointer (some ⟨w.heap.size + 2, 0, none⟩)] W2 enMat (fun W3 hb3 i k hi hk => by
      have hb4 := hb.trans (hb3.mono hb.size)
      obtain ⟨r1, r2, r3, r4⟩ := HK.out W3 hb4
      exact iMat1 (w.heap.size + 1) w.heap.size (w.heap.size + 2) p n v A x y z i k W3 (h.below (hbW.trans (hb4.mono hbW.size))) hv (by omega) (by omega) r2 r3 r1 r4))
    have HM := Lib.hid hm
    have hn1 : (1 : Int) ≤ n - 1 := by omega
    have hn3 : n - 1 ≤ 4 := by omega
    obtain ⟨_, _, a, cap, rfl, _⟩ := h
    obtain ⟨p0, p1, p2⟩ := ka
    clear hW hv hpv hm
    go_enter Try.func25, Try.ntmps25
    go_wp2_with fail
    rw [← HWE.out]
    refine (HH.out W HBW.out).mono ?_
    rintro e w1 ⟨rfl, hb1⟩
    obtain ⟨r1, r2, r3, r4⟩ := HK.out w1 hb1
    have HB := Lib.hid hb1
    clear hb1 kp kn kg p0 p1 p2
    go_wp2_with fail
    rw [HM.out]
    refine (HN.out _ HB.out).mono ?_
    rintro e w2 ⟨u, rfl, ho, hb2⟩
    have HO := Lib.hid (And.intro (ho.base (HBW.out.trans (HB.out.mono HBW.out.size)).size) ((HBW.out.trans (HB.out.mono HBW.out.size)).trans (hb2.mono (HBW.out.trans (HB.out.mono HBW.out.size)).size)))
    clear ho hb2
    go_wp2_with fail
    rw [HF.out]
    refine bodyPost_ret (v := .tuple #[u, .bool true]) (by simp [results, Try.results25, go_sem]) rfl ⟨_, rfl, HO.out⟩
end Go.Proofs.Ytlcmddghppdmgaa
namespace Go.Proofs.Ytlcmddghppdmgaa
set_option linter.unusedVariables false
open Go.RowKit Go.Shelf
/-- the ones below the first rows -/
def onF (j i k : Nat) : Int := if i < j ∧ i = k + 1 then 1 else 0
theorem onF_upd (j i k : Nat) : upd (onF j) j (j - 1) 1 i k = if 0 < j then onF (j + 1) i k else upd (onF j) j (j - 1) 1 i k := by
  by_cases hj : 0 < j
  · rw [if_pos hj]
    unfold upd onF
    by_cases h : i = j ∧ k = j - 1
    · rw [if_pos h, if_pos (by omega)]
    · rw [if_neg h]
      by_cases h2 : i < j ∧ i = k + 1
      · rw [if_pos h2, if_pos (by omega)]
      · rw [if_neg h2, if_neg (by omega)]
  · rw [if_neg hj]
theorem onF_zero (i k : Nat) : onF 1 i k = onF 0 i k := by
  unfold onF
  rw [if_neg (by omega), if_neg (by omega)]
theorem onF_all {m i k : Nat} (p : Int) (ev : Nat → Int) (A : List Arr) (hi : i < m) : onF m i k = elP p ev A 0 i k := by
  unfold onF elP
  by_cases h : i = k + 1
  · rw [if_pos ⟨hi, h⟩, if_pos h]
  · rw [if_neg (fun q => h q.2), if_neg h]
theorem elP_upd {p : Int} {ev : Nat → Int} {A : List Arr} {j f t : Nat} (hf : (arw A j).f = (f : Int)) (ht : (arw A j).t = (t : Int) + 1) (i k : Nat) :
    upd (elP p ev A j) f t ((elP p ev A j f t - ev j) % p) i k = elP p ev A (j + 1) i k := by
  unfold upd
  show _ = if (arw A j).f = (i : Int) ∧ (arw A j).t = ((k : Int) + 1) then (elP p ev A j i k - ev j) % p else elP p ev A j i k
  by_cases h : i = f ∧ k = t
  · obtain ⟨rfl, rfl⟩ := h
    rw [if_pos ⟨rfl, rfl⟩, if_pos ⟨hf, ht⟩]
  · rw [if_neg h, if_neg (by rw [hf, ht]; omega)]
set_option maxRecDepth 100000 in
set_option maxHeartbeats 8000000 in
theorem sL9 (p n : Int) (v : Value) (A : List Arr) (x y z : Int) (w : World) (h : Arrs w v A) (hv : maB p n A x y z = true) :
    Calls Try.prog 158 #[.int .i64 p, .agg #[.int .i64 n, v], .agg #[.int .i64 x, .int .i64 y, .int .i64 z]] w fun e w' => ∃ u, e = .returned u ∧ OwnMat w' w.heap.size u (maV p n A x y z) ∧ Below w.heap.size w w' := by
  have hv2 := hv
  simp only [maB, Bool.and_eq_true] at hv2
  obtain ⟨hpv, he3⟩ := hv2
  obtain ⟨hp, ⟨hn2, hn5⟩, hl10, _⟩ := prgB_iff.1 hpv
  have hpb := isP_bd hp
  obtain ⟨m, hm⟩ := Int.eq_ofNat_of_zero_le (show 0 ≤ n - 1 by omega)
  have hm1 : 1 ≤ m := by omega
  have hm4 : m ≤ 4 := by omega
  have HF := Lib.hid (show maV p n A x y z = matF m (elP p (evA p x y z A) A A.length) m by simp [maV, hv, hm])
  have HN := Lib.hid (fun w => sNew m m (by omega) (by omega) w)
  have HEV := Lib.hid (fun j (hj : j < A.length) (u : Value) W (hu : Trms W u (arw A j).L) => show Calls Try.prog 193 #[.int .i64 p, u, .agg #[.int .i64 x, .int .i64 y, .int .i64 z]] W fun e w' => e = .returned (.int .i64 (evA p x y z A j)) ∧ Below W.heap.size W w' from by
    have h2 := (prgB_lab hpv hj).2
    simp only [Bool.and_eq_true] at h2
    exact sAt p x y z u _ W hp h2.2 he3 hu)
  have HLB := Lib.hid (fun j (hj : j < A.length) => show ∃ f t : Nat, (arw A j).f = (f : Int) ∧ (arw A j).t = (t : Int) + 1 ∧ f < m ∧ t < m from by
    obtain ⟨⟨q1, q2, q3⟩, _⟩ := prgB_lab hpv hj
    obtain ⟨f, hf⟩ := Int.eq_ofNat_of_zero_le q1
    obtain ⟨t, ht⟩ := Int.eq_ofNat_of_zero_le (show 0 ≤ (arw A j).t - 1 by omega)
    exact ⟨f, t, hf, by omega, by omega, by omega⟩)
  have HBD := Lib.hid (fun j i k => elP_bd hp (evA p x y z A) A i k j)
  have HVB := Lib.hid (fun j => evK_bd hp x y z (arw A j).L (arw A j).L.length)
  have HP := Lib.hid hp
  have HM := Lib.hid hm
  obtain ⟨_, _, a, cap, rfl, h3⟩ := h
  have HD := Lib.hid h3
  obtain ⟨W, hW⟩ : ∃ W, W = (w.alloc (Obj.cells #[.int .i64 n, .slice a A.length cap] 29)).alloc (Obj.cells #[.int .i64 x, .int .i64 y, .int .i64 z] 33) := ⟨_, rfl⟩
  have hbW : Below w.heap.size w W := by rw [hW]; exact (by repeat (first | exact Below.refl _ _ | apply Below.drew | apply below_drewN | (refine Below.alloc ?_ (by first | omega | (simp <;> omega)) _)))
  have hPt : PtAt W (w.heap.size + 1) x y z := by rw [hW]; refine ⟨?_, ?_, ?_⟩ <;> simp [go_sem]
  have hs : w.heap.size + 1 < W.heap.size := by rw [hW]; simp
  have kg : W.cell? ⟨w.heap.size, 1, none⟩ = some (.slice a A.length cap) := by rw [hW]; simp [go_sem]
  have HK := Lib.hid (fun w' (hb : Below W.heap.size W w') => show w'.cell? ⟨w.heap.size, 1, none⟩ = some (.slice a A.length cap) ∧ PtAt w' (w.heap.size + 1) x y z from
    ⟨by rw [hb.cell (p := ⟨w.heap.size, 1, none⟩) (by show w.heap.size < _; omega)]; exact kg, hPt.below hb hs⟩)
  have HW := Lib.hid hW
  have HBW := Lib.hid hbW
  have hn1 : (1 : Int) ≤ n - 1 := by omega
  have hn3 : n - 1 ≤ 4 := by omega
  clear hW hv hpv he3 h3 hm hPt kg hbW hl10 hp
  go_enter Try.func158, Try.ntmps158
  go_wp2_with fail
  rw [← HW.out, HM.out]
  refine (HN.out _).mono ?_
  rintro e w1 ⟨u, V, H, rfl, hR, hb⟩
  rw [zeroM_F] at hR
  obtain ⟨g2, cap2, rfl, hmm⟩ := hR.formF hm1
  have HS := Lib.hid (show OMat w1 W.heap.size g2 0 H (fun _ => 0) (matF m (onF 0) m) ∧ Below W.heap.size W w1 from ⟨by rw [matF_ext (F := fun _ _ => 0) (fun i k _ _ => by simp [onF])]; exact hmm, hb⟩)
  clear hR hmm hb HW
  go_wp2_with fail
  go_loopw [22] (fun i wr => ∃ j : Nat, j ≤ m ∧ i = .int .i64 j ∧ OMat wr W.heap.size g2 0 H (fun _ => 0) (matF m (onF j) m) ∧ Below W.heap.size W wr) (fun i _ => m - (intOf i).toNat)
  case atStart => exact ⟨0, by omega, rfl, HS.out⟩
  case round =>
    clear HS
    obtain ⟨j, hj, rfl, hmm, hb⟩ := hrel
    by_cases hlt : j < m
    · have hltp : (j : Int) < (m : Int) := by omega
      have hj0 : (0 : Int) ≤ (j : Int) := by omega
      obtain ⟨cp, h1, h2, h3, h4, h5⟩ := hmm.cellF hlt (show 0 < m by omega)
      rw [Nat.zero_add] at h1
      by_cases hj1 : 0 < j
      · have hj1p : (j : Int) > 0 := by omega
        obtain ⟨q, hq⟩ : ∃ q, j = q + 1 := ⟨j - 1, by omega⟩
        have hqi : (j : Int) - 1 = (q : Int) := by omega
        have hqm : q < m := by omega
        have hqp : (q : Int) < (m : Int) := by omega
        have hq0 : (0 : Int) ≤ (q : Int) := by omega
        obtain ⟨c1, c2⟩ := h5 q hqm
        rw [Nat.zero_add] at c1 c2
        have HFF := Lib.hid (show OMat (wr.setCell ⟨H j, q, none⟩ (.int .i64 1)) W.heap.size g2 0 H (fun _ => 0) (matF m (onF (j + 1)) m) ∧ Below W.heap.size W (wr.setCell ⟨H j, q, none⟩ (.int .i64 1)) from by
          refine ⟨?_, hb.setCell h3 _⟩
          have := hmm.setF hlt hqm 1
          rw [Nat.zero_add] at this
          rw [← matF_ext (E := upd (onF j) j q 1) (fun i k _ _ => by have := onF_upd j i k; rw [if_pos hj1, show j - 1 = q by omega] at this; exact this)]
          exact this)
        have HQ := Lib.hid hqi
        clear hmm hb h5 hq
        go_wp2_with fail
        go_roundw
        case rel => exact ⟨j + 1, by omega, by go_num, HFF.out⟩
        case measure => simp [intOf]; omega
      · have hj2 : j = 0 := by omega
        have hj1p : ¬ (j : Int) > 0 := by omega
        have HFF := Lib.hid (show OMat wr W.heap.size g2 0 H (fun _ => 0) (matF m (onF (j + 1)) m) ∧ Below W.heap.size W wr from by
          subst hj2
          refine ⟨?_, hb⟩
          rw [matF_ext (F := onF 0) (fun i k _ _ => onF_zero i k)]
          exact hmm)
        clear hmm hb h5 hj2
        go_wp2_with fail
        go_roundw
        case rel => exact ⟨j + 1, by omega, by go_num, HFF.out⟩
        case measure => simp [intOf]; omega
    · have hjm : j = m := by omega
      subst hjm
      have HS := Lib.hid (show OMat wr W.heap.size g2 0 H (fun _ => 0) (matF j (elP p (evA p x y z A) A 0) j) ∧ Below W.heap.size W wr from by
        refine ⟨?_, hb⟩
        rw [← matF_ext (E := onF j) (fun i k hi _ => onF_all p (evA p x y z A) A hi)]
        exact hmm)
      obtain ⟨kg2, _⟩ := HK.out wr hb
      clear hmm hb
      go_wp2_with fail
      go_loopw [37] (fun i wr => ∃ j2 : Nat, j2 ≤ A.length ∧ i = .int .i64 j2 ∧ OMat wr W.heap.size g2 0 H (fun _ => 0) (matF j (elP p (evA p x y z A) A j2) j) ∧ Below W.heap.size W wr) (fun i _ => A.length - (intOf i).toNat)
      case atStart => exact ⟨0, by omega, rfl, HS.out⟩
      case round =>
        clear HS kg2
        obtain ⟨q, hq, rfl, hmm, hb⟩ := hrel
        by_cases hlt2 : q < A.length
        · have hltp2 : (q : Int) < (A.length : Int) := by omega
          have hq0 : (0 : Int) ≤ (q : Int) := by omega
          rcases HD.out with h | ⟨g, off, rfl, hg, hc⟩
          · rw [h] at hlt2; simp at hlt2
          have hbw := HBW.out.trans (hb.mono HBW.out.size)
          obtain ⟨q0, q1, u, q2, q3⟩ := (hc q hlt2).below hbw hg
          obtain ⟨f, t, hf, ht, hfm, htm⟩ := HLB.out q hlt2
          have HU := Lib.hid (fun i k => elP_upd (p := p) (ev := evA p x y z A) hf ht i k)
          obtain ⟨cp, h1, h2, h3, h4, h5⟩ := hmm.cellF hfm (show 0 < j by omega)
          obtain ⟨c1, c2⟩ := h5 t htm
          rw [Nat.zero_add] at h1 c1 c2
          rw [hf] at q0
          rw [ht] at q1
          have HEE := Lib.hid (fun W3 (hb3 : Below wr.heap.size wr W3) => HEV.out q hlt2 u W3 (q3.below hb3))
          obtain ⟨b1, b2⟩ := HBD.out q f t
          obtain ⟨b3, b4⟩ := HVB.out q
          have hfp : (f : Int) < (j : Int) := by omega
          have htp : (t : Int) < (j : Int) := by omega
          have hf0 : (0 : Int) ≤ (f : Int) := by omega
          have ht0 : (0 : Int) ≤ (t : Int) := by omega
          obtain ⟨_, ka⟩ := HK.out wr hb
          have hsr : w.heap.size + 1 < wr.heap.size := Nat.lt_of_lt_of_le hs hb.size
          obtain ⟨s1, hs1⟩ : ∃ s1, s1 = elP p (evA p x y z A) A q f t := ⟨_, rfl⟩
          obtain ⟨ev, hev⟩ : ∃ ev, ev = evA p x y z A q := ⟨_, rfl⟩
          have hev2 : ev = evK p x y z (arw A q).L (arw A q).L.length := hev
          have HFF := Lib.hid (fun w3 (hb3 : Below wr.heap.size wr w3) => show OMat (w3.setCell ⟨H f, t, none⟩ (.int .i64 ((s1 - ev) % p))) W.heap.size g2 0 H (fun _ => 0) (matF j (elP p (evA p x y z A) A (q + 1)) j) ∧ Below W.heap.size W (w3.setCell ⟨H f, t, none⟩ (.int .i64 ((s1 - ev) % p))) from by
            refine ⟨?_, (hb.trans (hb3.mono hb.size)).setCell h3 _⟩
            have := (hmm.below hb3).setF hfm htm ((s1 - ev) % p)
            rw [Nat.zero_add] at this
            rw [← matF_ext (E := upd (elP p (evA p x y z A) A q) f t ((s1 - ev) % p)) (fun i k _ _ => by rw [hs1, hev]; exact HU.out i k)]
            exact this)
          rw [← hs1] at b1 b2 c1
          rw [← hev] at HEE
          rw [← hev2] at b3 b4
          have hw1 : IntKind.i64.wrap (s1 - ev) = s1 - ev := IntWalk.i64_in _ (by omega)
          obtain ⟨_, ua, uc, rfl, _⟩ := q3
          obtain ⟨ul, hul⟩ : ∃ ul, ul = (arw A q).L.length := ⟨_, rfl⟩
          rw [← hul] at q2 HEE
          obtain ⟨W5, hW5⟩ : ∃ W5, W5 = wr.alloc (Obj.cells #[.int .i64 f, .int .i64 ((t : Int) + 1), .slice ua ul uc] 80) := ⟨_, rfl⟩
          have hb5 : Below wr.heap.size wr W5 := by rw [hW5]; exact (by repeat (first | exact Below.refl _ _ | apply Below.drew | apply below_drewN | (refine Below.alloc ?_ (by first | omega | (simp <;> omega)) _)))
          have e0 : W5.cell? ⟨wr.heap.size, 0, none⟩ = some (.int .i64 f) := by rw [hW5]; simp [go_sem]
          have e1 : W5.cell? ⟨wr.heap.size, 1, none⟩ = some (.int .i64 ((t : Int) + 1)) := by rw [hW5]; simp [go_sem]
          have e2 : W5.cell? ⟨wr.heap.size, 2, none⟩ = some (.slice ua ul uc) := by rw [hW5]; simp [go_sem]
          have l5 : wr.heap.size < W5.heap.size := by rw [hW5]; simp
          have hHl : H f < wr.heap.size := h4
          have hwt : IntKind.i64.wrap (t : Int) = (t : Int) := IntWalk.i64_in _ (by omega)
          have hgl : g2 < wr.heap.size := hmm.gl
          have HSS := Lib.hid (fun w' (hw : Below W5.heap.size W5 w') => show (w'.cell? ⟨wr.heap.size, 1, none⟩ = some (.int .i64 ((t : Int) + 1)) ∧ w'.cell? ⟨wr.heap.size, 2, none⟩ = some (.slice ua ul uc)) ∧ (w'.cell? ⟨w.heap.size + 1, 0, none⟩ = some (.int .i64 x) ∧ w'.cell? ⟨w.heap.size + 1, 1, none⟩ = some (.int .i64 y) ∧ w'.cell? ⟨w.heap.size + 1, 2, none⟩ = some (.int .i64 z)) ∧ w'.cell? ⟨H f, t, none⟩ = some (.int .i64 s1) from by
            have hbb := hb5.trans (hw.mono (Nat.le_of_lt l5))
            exact ⟨⟨(hw.cell (p := ⟨wr.heap.size, 1, none⟩) l5).trans e1, (hw.cell (p := ⟨wr.heap.size, 2, none⟩) l5).trans e2⟩, ka.below hbb hsr, (hbb.cell (p := ⟨H f, t, none⟩) hHl).trans c1⟩)
          have HZ := Lib.hid (fun w' (hw : Below W5.heap.size W5 w') => show w'.frozen? ⟨H f, t, none⟩ = false from by
            have hbb := hb5.trans (hw.mono (Nat.le_of_lt l5))
            exact (hbb.frozen (p := ⟨H f, t, none⟩) hHl).trans c2)
          have HW5 := Lib.hid hW5
          have HB5 := Lib.hid hb5
          clear hc hbw hb hmm h5 hs1 hev hev2 hul hW5 hb5 e0 e1 e2 ka c1 c2 HU hf ht
          go_wp2_with fail
          rw [← HW5.out]
          refine wp_region_seq [(0, true), (1, true), (2, true), (3, true), (4, true), (5, true), (6, true), (7, true), (8, true), (9, true), (10, true), (11, true), (12, true), (13, true), (14, true), (15, false), (16, true), (17, false), (18, true)] (fun w' => (w'.cell? ⟨wr.heap.size, 1, none⟩ = some (.int .i64 ((t : Int) + 1)) ∧ w'.cell? ⟨wr.heap.size, 2, none⟩ = some (.slice ua ul uc)) ∧ (w'.cell? ⟨w.heap.size + 1, 0, none⟩ = some (.int .i64 x) ∧ w'.cell? ⟨w.heap.size + 1, 1, none⟩ = some (.int .i64 y) ∧ w'.cell? ⟨w.heap.size + 1, 2, none⟩ = some (.int .i64 z)) ∧ w'.cell? ⟨H f, t, none⟩ = some (.int .i64 s1)) (by kernel_rfl) (by kernel_rfl) rfl (by intro c a d v w h; cases d <;> exact h) (HSS.out _ (Below.drew (Below.refl _ _))) ?_
          iterate 15 (refine wpSeq_take (v := ?_) (List.getElem?_toArray.trans rfl) ?_ ?_; rotate_left; (intro w' hSw; (try dsimp only at hSw); go_simp; (try with_reducible rfl)); (try simp only [Act.put, List.setIfInBounds_toArray, List.set_cons_zero, List.set_cons_succ]))
          refine wpSeq_do (List.getElem?_toArray.trans rfl) (fun K hK => ?_)
          go_simp
          refine (HEE.out _ (HB5.out.trans (Below.mono (Below.drew (Below.refl _ _)) (Nat.le_of_lt l5)))).mono ?_
          rintro e w6 ⟨rfl, hb6⟩
          have hbb : Below W5.heap.size W5 w6 := (Below.drew (Below.refl _ _)).trans (hb6.mono (by simp))
          refine hK _ _ (HSS.out _ hbb) ?_
          clear hK K
          (refine wpSeq_take (v := ?_) (List.getElem?_toArray.trans rfl) ?_ ?_; rotate_left; (intro w' hSw; (try dsimp only at hSw); go_simp; (try with_reducible rfl)); (try simp only [Act.put, List.setIfInBounds_toArray, List.set_cons_zero, List.set_cons_succ]))
          refine wpSeq_do (List.getElem?_toArray.trans rfl) (fun K hK => ?_)
          go_simp
          refine (sMod p (s1 - ev) _ HP.out).mono ?_
          rintro e w7 ⟨rfl, rfl⟩
          refine hK _ _ (HSS.out _ hbb) ?_
          clear hK K
          (refine wpSeq_take (v := ?_) (List.getElem?_toArray.trans rfl) ?_ ?_; rotate_left; (intro w' hSw; (try dsimp only at hSw); go_simp; (try with_reducible rfl)); (try simp only [Act.put, List.setIfInBounds_toArray, List.set_cons_zero, List.set_cons_succ]))
          refine wpSeq_nil ?_
          simp only [Exit.then]
          have hz := HZ.out _ hbb
          obtain ⟨_, _, hzc⟩ := HSS.out _ hbb
          have HG := Lib.hid (HFF.out _ (HB5.out.trans (hbb.mono (Nat.le_of_lt l5))))
          clear HFF hbb hb6 HSS HZ q0 q1 q2 h1
          go_wp2_with fail
          go_roundw
          case rel => exact ⟨q + 1, by omega, by go_num, HG.out⟩
          case measure => simp [intOf]; omega
        · have hql : q = A.length := by omega
          subst hql
          have HFF := Lib.hid (show OwnMat wr w.heap.size (.slice (some ⟨g2, 0, none⟩) j cap2) (matF j (elP p (evA p x y z A) A A.length) j) ∧ Below w.heap.size w wr from
            ⟨(hmm.own (by omega) (by omega)).base HBW.out.size, HBW.out.trans (hb.mono HBW.out.size)⟩)
          clear hmm hb
          go_wp2_with fail
          rw [HF.out]
          go_ret
          exact ⟨_, rfl, HFF.out⟩
set_option maxHeartbeats 2000000 in
theorem sRawMat (p n : Int) (v : Value) (A : List Arr) (x y z : Int) (w : World) (h : Arrs w v A) :
    Calls Try.prog 84 #[.int .i64 p, .agg #[.int .i64 n, v], .agg #[.int .i64 x, .int .i64 y, .int .i64 z]] w fun e w' => ∃ u, e = .returned (.tuple #[u, .bool (maB p n A x y z)]) ∧ OwnMat w' w.heap.size u (maV p n A x y z) ∧ Below w.heap.size w w' := by
  have HI := Lib.hid (fun W (hb : Below w.heap.size w W) => sPgV p n v A W (h.below hb))
  obtain ⟨W, hW⟩ : ∃ W, W = (w.alloc (Obj.cells #[.int .i64 n, v] 29)).alloc (Obj.cells #[.int .i64 x, .int .i64 y, .int .i64 z] 33) := ⟨_, rfl⟩
  have hb : Below w.heap.size w W := by rw [hW]; exact (by repeat (first | exact Below.refl _ _ | apply Below.drew | apply below_drewN | (refine Below.alloc ?_ (by first | omega | (simp <;> omega)) _)))
  have hP : PtAt W (w.heap.size + 1) x y z := by rw [hW]; refine ⟨?_, ?_, ?_⟩ <;> simp [go_sem]
  have hs : w.heap.size + 1 < W.heap.size := by rw [hW]; simp
  have kn : W.cell? ⟨w.heap.size, 0, none⟩ = some (.int .i64 n) := by rw [hW]; simp [go_sem]
  have kg : W.cell? ⟨w.heap.size, 1, none⟩ = some v := by rw [hW]; simp [go_sem]
  have HW := Lib.hid hW
  cases hv : prgB p n A
  · rw [hv] at HI
    have HF := Lib.hid (show maB p n A x y z = false ∧ maV p n A x y z = [] by
      have : maB p n A x y z = false := by simp [maB, hv]
      exact ⟨this, by simp [maV, this]⟩)
    obtain ⟨_, _, a, cap, rfl, _⟩ := h
    clear hW hv hP kn kg
    go_enter Try.func84, Try.ntmps84
    go_wp2_with fail
    rw [← HW.out]
    refine (HI.out W hb).mono ?_
    rintro e w1 ⟨rfl, hb1⟩
    have HB := Lib.hid (hb.trans (hb1.mono hb.size))
    clear hb hb1
    go_wp2
    rw [HF.out.1, HF.out.2]
    refine bodyPost_ret (v := .tuple #[.slice (some ⟨w1.heap.size, 0, none⟩) 0 0, .bool false]) (by simp [results, Try.results84, go_sem]) rfl ⟨_, rfl, OwnMat.nil _ _ _ _, Below.alloc HB.out HB.out.size _⟩
  · rw [hv] at HI
    have hp := (prgB_iff.1 hv).1
    cases he : isE3 p x y z
    · have HF := Lib.hid (show maB p n A x y z = false ∧ maV p n A x y z = [] by
        have : maB p n A x y z = false := by simp [maB, he]
        exact ⟨this, by simp [maV, this]⟩)
      have HE := Lib.hid (fun W (hq : PtAt W (w.heap.size + 1) x y z) => sEl3 _ p x y z hp he (w.heap.size + 1) W hq)
      have HP := Lib.hid hP
      obtain ⟨_, _, a, cap, rfl, _⟩ := h
      clear hW hv hP kn kg
      go_enter Try.func84, Try.ntmps84
      go_wp2_with fail
      rw [← HW.out]
      refine (HI.out W hb).mono ?_
      rintro e w1 ⟨rfl, hb1⟩
      have HB := Lib.hid (hb.trans (hb1.mono hb.size))
      have HP1 := Lib.hid (HP.out.below hb1 hs)
      clear hb hb1 HW
      go_wp2_with fail
      refine (HE.out w1 HP1.out).mono ?_
      rintro e w2 ⟨rfl, rfl⟩
      go_wp2
      rw [HF.out.1, HF.out.2]
      refine bodyPost_ret (v := .tuple #[.slice (some ⟨w1.heap.size, 0, none⟩) 0 0, .bool false]) (by simp [results, Try.results84, go_sem]) rfl ⟨_, rfl, OwnMat.nil _ _ _ _, Below.alloc HB.out HB.out.size _⟩
    · have hm : maB p n A x y z = true := by simp [maB, he, hv]
      have HE := Lib.hid (fun W (hq : PtAt W (w.heap.size + 1) x y z) => sEl3 _ p x y z hp he (w.heap.size + 1) W hq)
      have HL := Lib.hid (fun W (hb : Below w.heap.size w W) => sL9 p n v A x y z W (h.below hb) hm)
      have HP := Lib.hid hP
      have HM := Lib.hid hm
      have HKK := Lib.hid (fun w' (hb : Below W.heap.size W w') => show w'.cell? ⟨w.heap.size, 0, none⟩ = some (.int .i64 n) ∧ w'.cell? ⟨w.heap.size, 1, none⟩ = some v from
        ⟨by rw [hb.cell (p := ⟨w.heap.size, 0, none⟩) (by show w.heap.size < _; omega)]; exact kn, by rw [hb.cell (p := ⟨w.heap.size, 1, none⟩) (by show w.heap.size < _; omega)]; exact kg⟩)
      obtain ⟨_, _, a, cap, rfl, _⟩ := h
      clear hW hv hP kn kg hm
      go_enter Try.func84, Try.ntmps84
      go_wp2_with fail
      rw [← HW.out]
      refine (HI.out W hb).mono ?_
      rintro e w1 ⟨rfl, hb1⟩
      have HB := Lib.hid (hb.trans (hb1.mono hb.size))
      have HP1 := Lib.hid (HP.out.below hb1 hs)
      obtain ⟨r0, r1⟩ := HKK.out w1 hb1
      clear hb hb1 HW
      go_wp2_with fail
      refine (HE.out w1 HP1.out).mono ?_
      rintro e w2 ⟨rfl, rfl⟩
      obtain ⟨p0, p1, p2⟩ := HP1.out
      go_wp2_with fail
      refine (HL.out _ HB.out).mono ?_
      rintro e w2 ⟨u, rfl, ho, hb2⟩
      have HO := Lib.hid (And.intro (ho.base HB.out.size) (HB.out.trans (hb2.mono HB.out.size)))
      clear ho hb2 r0 r1 p0 p1 p2
      go_wp2_with fail
      rw [HM.out]
      refine bodyPost_ret (v := .tuple #[u, .bool true]) (by simp [results, Try.results84, go_sem]) rfl ⟨_, rfl, HO.out⟩
theorem maV_rows (p n : Int) (A : List Arr) (x y z : Int) : (maV p n A x y z).length ≤ 100 ∧ ∀ i, i < (maV p n A x y z).length → 0 < (rowM (maV p n A x y z) i).length ∧ (rowM (maV p n A x y z) i).length ≤ 1000 := by
  unfold maV
  by_cases h : maB p n A x y z = true
  · have h' := h
    simp only [maB, Bool.and_eq_true] at h'
    obtain ⟨_, ⟨h1, h2⟩, _⟩ := prgB_iff.1 h'.1
    rw [if_pos h, matF_len]
    refine ⟨by omega, fun i hi => ?_⟩
    rw [matF_row hi]; simp; omega
  · rw [if_neg h]; exact ⟨by simp, fun i hi => absurd hi (Nat.not_lt_zero i)⟩
set_option maxHeartbeats 2000000 in
theorem sMatAt (p n : Int) (v : Value) (A : List Arr) (x y z : Int) (w : World) (h : Arrs w v A) :
    Calls Try.prog 23 #[.int .i64 p, .agg #[.int .i64 n, v], .agg #[.int .i64 x, .int .i64 y, .int .i64 z]] w fun e w' => ∃ u, e = .returned (.tuple #[u, .bool (maB p n A x y z)]) ∧ OwnMat w' w.heap.size u (maV p n A x y z) ∧ Below w.heap.size w w' := by
  have HR := Lib.hid (maV_rows p n A x y z)
  have HS := Lib.hid (fun W (hb : Below w.heap.size w W) => sRawMat p n v A x y z W (h.below hb))
  obtain ⟨b, hb⟩ : ∃ b, b = maB p n A x y z := ⟨_, rfl⟩
  obtain ⟨R, hM⟩ : ∃ R, R = maV p n A x y z := ⟨_, rfl⟩
  rw [← hb, ← hM] at HS ⊢
  rw [← hM] at HR
  obtain ⟨_, _, a, cap, rfl, _⟩ := h
  clear hb hM
  go_enter Try.func23, Try.ntmps23
  go_wp2_with fail
  refine (HS.out _ (by repeat (first | exact Below.refl _ _ | apply Below.drew | apply below_drewN | (refine Below.alloc ?_ (by first | omega | (simp <;> omega)) _)))).mono ?_
  rintro e w1 ⟨u, rfl, ho, hb1⟩
  have HO := Lib.hid (sOwnMo u R w1 ho.mat HR.out.1 HR.out.2)
  have HB := Lib.hid (show Below w.heap.size w w1 from Below.trans (by repeat (first | exact Below.refl _ _ | apply Below.drew | apply below_drewN | (refine Below.alloc ?_ (by first | omega | (simp <;> omega)) _))) (hb1.mono (by simp <;> omega)))
  clear ho hb1
  go_wp2_with fail
  refine HO.out.mono ?_
  rintro e w2 ⟨u2, rfl, ho2, hb2⟩
  have HF := Lib.hid (And.intro (ho2.base HB.out.size) (HB.out.trans (hb2.mono HB.out.size)))
  clear ho2 hb2
  go_wp2_with fail
  refine bodyPost_ret (v := .tuple #[u2, .bool b]) (by simp [results, Try.results23, go_sem]) rfl ⟨_, rfl, HF.out⟩
end Go.Proofs.Ytlcmddghppdmgaa
