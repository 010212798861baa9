/- own texts -/
import Derived.Test.YtlidplmpglpkgaaBe16
import Derived.Test.YtlidplmpglpkgaaBe18
import Derived.Test.YtlidplmpglpkgaaBe19
import Derived.Test.YtlidplmpglpkgaaBe15
import Derived.Test.YtlidplmpglpkgaaBa20
import Derived.Test.YtlidplmpglpkgaaBe22
import Derived.Test.YtlidplmpglpkgaaBa12
import Derived.Test.YtlidplmpglpkgaaBe1
namespace Go.Proofs.Ytlidplmpglpkgaa
open Go.RowKit
theorem H1 {α : Prop} (h : α) : Hid α := Lib.hid h
abbrev VI := Value × List Int
structure PQ (w0 : World) (f : Value) (L : List Gt) (X : Nat) (x y z : Int) (is : List VI) (zs : List VT) (wr : World) : Prop where
  low : Below w0.heap.size w0 wr
  gs : Gats wr f L
  pt : PtB wr X x y z
  ins : ∀ q ∈ is, Ints wr q.1 q.2
  rd : ∀ q ∈ zs, Trms wr q.1 q.2
section
variable {w0 wr w' : World} {f : Value} {L : List Gt} {X : Nat} {x y z : Int} {is : List VI} {zs : List VT}
theorem PQ.on (h : PQ w0 f L X x y z is zs wr) (hb : Below wr.heap.size wr w') : PQ w0 f L X x y z is zs w' :=
  ⟨h.low.trans (hb.mono h.low.size), h.gs.below hb, h.pt.on hb, fun q hq => (h.ins q hq).below hb, fun q hq => (h.rd q hq).below hb⟩
theorem PQ.addI (h : PQ w0 f L X x y z is zs wr) {v : Value} {l : List Int} (hv : Ints wr v l) : PQ w0 f L X x y z ((v, l) :: is) zs wr :=
  ⟨h.low, h.gs, h.pt, fun q hq => by
    rcases List.mem_cons.1 hq with rfl | hq
    · exact hv
    · exact h.ins q hq, h.rd⟩
theorem PQ.addT (h : PQ w0 f L X x y z is zs wr) {v : Value} {l : List Trm} (hv : Trms wr v l) : PQ w0 f L X x y z is ((v, l) :: zs) wr :=
  ⟨h.low, h.gs, h.pt, h.ins, fun q hq => by
    rcases List.mem_cons.1 hq with rfl | hq
    · exact hv
    · exact h.rd q hq⟩
theorem PQ.i (h : PQ w0 f L X x y z is zs wr) {v : Value} {l : List Int} (hm : (v, l) ∈ is) : Ints wr v l := h.ins _ hm
theorem PQ.t (h : PQ w0 f L X x y z is zs wr) {v : Value} {l : List Trm} (hm : (v, l) ∈ zs) : Trms wr v l := h.rd _ hm
end
theorem fdg_at {p : Int} {L : List Gt} (hv : circB p L = true) : fdgV p L = degAt L (L.length - 1) := by
  obtain ⟨_, h1, _, _⟩ := circB_iff.1 hv
  unfold fdgV degAt
  rw [if_pos hv, show L.length - 1 + 1 = L.length by omega]
theorem ints_take {w : World} {a : Option Addr} {n cap : Nat} {l : List Int} (h : Ints w (.slice a n cap) l) {k : Nat} (hk : k ≤ l.length) (c : Nat) : Ints w (.slice a k c) (l.take k) := by
  obtain ⟨h1, a', cap', e, h2⟩ := h
  injection e with e1 e2 e3
  subst e1
  refine ⟨by rw [List.length_take]; omega, a, c, by rw [List.length_take, Nat.min_eq_left hk], ?_⟩
  rcases h2 with h2 | ⟨g, off, ha, hg, hc⟩
  · exact .inl (by rw [h2]; simp)
  · refine .inr ⟨g, off, ha, hg, fun j hj => ?_⟩
    rw [List.length_take] at hj
    have := hc j (by omega)
    rw [show (l.take k).getD j 0 = l.getD j 0 by simp [List.getD_eq_getElem?_getD, show j < k by omega]]
    exact this
theorem iPartsAtC (p kk x y z : Int) (f : Value) (L : List Gt) (w : World) (h : Gats w f L) :
    Calls Try.prog 59 #[.int .i64 p, f, .int .i64 kk, .agg #[.int .i64 x, .int .i64 y, .int .i64 z]] w fun e w' => ∃ u, e = .returned u ∧ OwnInts w' w.heap.size u (paV p kk x y z L) ∧ (((circB p L && inB kk 0 9) && isE3 p x y z) = true → ∃ a c, u = .slice a (paV p kk x y z L).length c ∧ (paV p kk x y z L).length ≤ c) ∧ Below w.heap.size w w' := by
  cases hn : (circB p L && inB kk 0 9)
  · exact (iPartsAt p kk x y z f L w h).mono fun e w' ⟨u, h1, h2, h3⟩ => ⟨u, h1, h2, fun hc => (by cases hc), h3⟩
  · have hn2 := hn
    simp only [Bool.and_eq_true] at hn2
    have hk : 0 ≤ kk ∧ kk ≤ 9 := by simpa [inB] using hn2.2
    obtain ⟨k, rfl⟩ := Int.eq_ofNat_of_zero_le hk.1
    exact (iPartsC p x y z k f L w h hn2.1 (by omega)).mono fun e w' ⟨u, h1, h2, h3⟩ => ⟨u, h1, h2.1, fun _ => h2.2, h3⟩
set_option maxRecDepth 100000 in
set_option maxHeartbeats 16000000 in
theorem wPartsAt_in (a : Option Addr) (len cap : Nat) (w : World) (h : ByteRow w a len cap) (hl : len ≤ 1048576) :
    Calls Try.prog 10 #[.slice a len cap] w fun e w' => e = .returned (.bool true) ∧ Below w.heap.size w w' := by
  have hlp : (len : Int) ≤ 1048576 := by omega
  have HD := H1 (drawPartsAt a len cap w h)
  clear h
  go_enter Try.func10, Try.ntmps10
  go_wp2_with fail
  refine HD.out.mono ?_
  rintro e w1 ⟨p, f, L, kk, x, y, z, rfl, hkk, hL, hr1, hn, hb1⟩
  have HG1 := H1 (hr1.own (by omega)).gats
  have HB1 := H1 hb1
  clear hr1 hb1 HD hn
  obtain ⟨X, hX⟩ : ∃ X, X = w1.heap.size := ⟨_, rfl⟩
  obtain ⟨W1, hW1⟩ : ∃ W, W = w1.alloc (Obj.cells #[.int .i64 x, .int .i64 y, .int .i64 z] 33) := ⟨_, rfl⟩
  have hbW : Below w1.heap.size w1 W1 := by rw [hW1]; exact Below.alloc (Below.refl _ _) (Nat.le_refl _) _
  have HQ := H1 (show PQ w f L X x y z [] [] W1 from ⟨HB1.out.trans (hbW.mono HB1.out.size), HG1.out.below hbW, by rw [hW1, hX]; exact PtB.new w1 x y z, fun q hq => (by cases hq), fun q hq => (by cases hq)⟩)
  have HW := H1 (And.intro hX hW1)
  clear hX hW1 hbW HG1 HB1
  go_upto_region 4 with fail
  rw [← HW.out.2, ← HW.out.1]
  clear HW
  obtain ⟨d0, d1, d2, _, _⟩ := HQ.out.pt
  go_wp2_with fail
  refine (iPartsAtC p kk x y z f L W1 HQ.out.gs).mono ?_
  rintro e w2 ⟨lv, rfl, ho, hcap, hb⟩
  have C2 := H1 hcap
  replace HQ := H1 ((HQ.out.on hb).addI ho.ints)
  clear hcap
  clear ho hb d0 d1 d2
  obtain ⟨d0, d1, d2, _, _⟩ := HQ.out.pt
  go_wp2_with fail
  refine (sPartsAt p kk x y z f L w2 HQ.out.gs).mono ?_
  rintro e w3 ⟨wv, rfl, ho, hb⟩
  replace HQ := H1 ((HQ.out.on hb).addI ho.ints)
  clear ho hb d0 d1 d2
  go_wp2_with fail
  refine (sameInts lv wv (paV p kk x y z L) w3 (HQ.out.i (by simp)) (HQ.out.i (by simp))).mono ?_
  rintro e w4 ⟨rfl, hd⟩
  replace HQ := H1 (HQ.out.on (hd.below _))
  clear hd
  obtain ⟨_, la, lc, rfl, hlc⟩ := HQ.out.i (v := lv) (l := paV p kk x y z L) (by simp)
  cases hc : ((circB p L && inB kk 0 9) && isE3 p x y z)
  · have e0 : (paV p kk x y z L).length = 0 := by unfold paV; rw [hc]; rfl
    have HQ' := H1 HQ.out
    obtain ⟨d0, d1, d2, _, _⟩ := HQ.out.pt
    have hz : ((paV p kk x y z L).length : Int) = 0 := by omega
    clear hlc hc HQ
    go_wp2_with fail
    refine (sPartsAt p kk x y z f L w4 HQ'.out.gs).mono ?_
    rintro e w5 ⟨uv, rfl, ho, hb⟩
    replace HQ' := H1 ((HQ'.out.on hb).addI ho.ints)
    clear ho hb d0 d1 d2
    go_wp2_with fail
    refine (sameInts (.slice la 0 lc) uv (paV p kk x y z L) w5 ⟨by omega, la, lc, by rw [e0], .inl (List.length_eq_zero_iff.1 e0)⟩ (HQ'.out.i (by simp))).mono ?_
    rintro e w6 ⟨rfl, hd⟩
    replace HQ' := H1 (HQ'.out.on (hd.below _))
    clear hd
    go_wp2_with fail
    go_ret
    exact ⟨rfl, HQ'.out.low⟩
  · have hcap : (paV p kk x y z L).length ≤ lc := by
      obtain ⟨_, _, e, hle⟩ := C2.out hc
      injection e with e1 e2 e3
      rw [e3]
      exact hle
    clear C2
    obtain ⟨hc12, hE⟩ := Bool.and_eq_true_iff.1 hc
    obtain ⟨hv, hB⟩ := Bool.and_eq_true_iff.1 hc12
    have hk9 : 0 ≤ kk ∧ kk ≤ 9 := by unfold inB at hB; simpa using hB
    obtain ⟨k, rfl⟩ := Int.eq_ofNat_of_zero_le hk9.1
    have hF := paLaw (k := k) hv hE (by omega)
    have eP : ∀ i : Nat, i ≤ 9 → paV p (i : Int) x y z L = paL p x y z i L := fun i hi => by
      unfold paV
      have : inB (i : Int) 0 9 = true := by unfold inB; simp; omega
      rw [hv, this, hE]
      rfl
    have e2 : paV p ((k / 2 : Nat) : Int) x y z L = (paL p x y z k L).take (k / 2 + 1) := by rw [eP _ (by omega)]; exact hF.less _ (by omega)
    rw [eP k (by omega)] at HQ hlc hcap ⊢
    have eV : evV2 p x y z L = evL p x y z L L.length := by unfold evV2; rw [hv, hE]; rfl
    have eG := fdg_at hv
    have hlL := (circB_iff.1 hv).2.1
    have hel := evL_len p x y z L L.length
    have hsum := hF.sum
    have hpart := hF.part
    have hbd := hF.bd
    have hlen := hF.len
    have hp := hF.hp
    have hpb := isP_bd hp
    obtain ⟨l, hll⟩ : ∃ l, l = paL p x y z k L := ⟨_, rfl⟩
    rw [← hll] at HQ hlc e2 hsum hpart hbd hlen hcap ⊢
    obtain ⟨E, hEE⟩ : ∃ E, E = evL p x y z L L.length := ⟨_, rfl⟩
    rw [← hEE] at eV hel hsum
    obtain ⟨fd, hfd⟩ : ∃ n, n = fdgV p L := ⟨_, rfl⟩
    rw [← eG, ← hfd] at hsum
    have hcell : ∃ g off, la = some ⟨g, off, none⟩ ∧ g < w4.heap.size ∧ ∀ j : Nat, j ≤ k → w4.cell? ⟨g, off + j, none⟩ = some (.int .i64 (l.getD j 0)) := by
      rcases hlc with h | ⟨g, off, h1, h2, h3⟩
      · rw [h] at hlen; simp at hlen
      · exact ⟨g, off, h1, h2, fun j hj => h3 j (by omega)⟩
    obtain ⟨g, off, rfl, hg, hcs⟩ := hcell
    have hlk : (l.length : Int) = (k : Int) + 1 := by omega
    have HQ' := H1 HQ.out
    have C3 := H1 (fun (w' : World) (hb : Below w4.heap.size w4 w') (j : Nat) (hj : j ≤ k) => show w'.cell? ⟨g, off + j, none⟩ = some (.int .i64 (l.getD j 0)) by rw [hb.cell (p := ⟨g, off + j, none⟩) hg]; exact hcs j hj)
    have hsN : ∃ sN : Nat → Int, sN 0 = 0 ∧ (∀ j : Nat, j ≤ k → addV p (sN j) (l.getD j 0) = sN (j + 1)) ∧ (fd ≤ k → sN (k + 1) = E.getD (L.length - 1) 0) := by
      refine ⟨fun j => sumN j (fun d => l.getD d 0) % p, Int.zero_emod p, fun j hj => ?_, hsum⟩
      have hbj := hbd j hj
      show addV p (sumN j (fun d => l.getD d 0) % p) (l.getD j 0) = sumN (j + 1) (fun d => l.getD d 0) % p
      unfold addV
      rw [if_pos (by unfold isE2; rw [hp, isE_iff.2 (emod_bd (by omega)), isE_iff.2 hbj]; rfl), sNs, Int.emod_add_emod]
    obtain ⟨sN, hsN⟩ := hsN
    have N2 := H1 hsN
    clear hsN
    have P2 := H1 hp
    have D1 := H1 hbd
    have P3 := H1 hpart
    have HE2 := H1 (show paV p ((k : Int) / 2) x y z L = l.take (k / 2 + 1) by rw [show ((k : Int) / 2) = ((k / 2 : Nat) : Int) by omega]; exact e2)
    have HCP := H1 hcap
    clear hcap
    have E1 := H1 eV
    have F1 := H1 hfd
    have P4 := H1 hpb
    have N1 := H1 (And.intro hlen (And.intro hel hlL))
    have hne : ¬ ((l.length : Int) = 0) := by omega
    clear hlen hel hlL hlk
    clear hlc hcs hp hbd hpart hsum e2 eV hfd hll hEE eG eP hF hc hc12 hE hv hB HQ hpb
    obtain ⟨d0, d1, d2, _, _⟩ := HQ'.out.pt
    go_wp2_with fail
    refine (iEvalGates p x y z f L w4 HQ'.out.gs).mono ?_
    rintro e w5 ⟨vv, rfl, ho, hb⟩
    rw [E1.out] at ho
    have HQ5 := H1 ((HQ'.out.on hb).addI ho.ints)
    have HB5 := H1 hb
    clear ho hb d0 d1 d2
    obtain ⟨_, va, vc, rfl, hvc⟩ := HQ5.out.i (v := vv) (l := E) (by simp)
    have hvcell : ∃ g off, va = some ⟨g, off, none⟩ ∧ g < w5.heap.size ∧ w5.cell? ⟨g, off + (L.length - 1), none⟩ = some (.int .i64 (E.getD (L.length - 1) 0)) := by
      rcases hvc with h | ⟨g, off, h1, h2, h3⟩
      · have := N1.out.2; rw [h] at this; simp at this; omega
      · exact ⟨g, off, h1, h2, h3 _ (by have := N1.out.2; omega)⟩
    obtain ⟨vg, vo, rfl, hvg, hvce⟩ := hvcell
    have V1 := H1 (fun (w' : World) (hb : Below w5.heap.size w5 w') => show w'.cell? ⟨vg, vo + (L.length - 1), none⟩ = some (.int .i64 (E.getD (L.length - 1) 0)) by rw [hb.cell (p := ⟨vg, vo + (L.length - 1), none⟩) hvg]; exact hvce)
    clear hvc hvce
    go_wp2_with fail
    go_loopw [9, 59] (fun s i wr => ∃ j : Nat, j ≤ k + 1 ∧ i = .int .i64 j ∧ s = .int .i64 (sN j) ∧ Below w5.heap.size w5 wr) (fun _ i _ => k + 1 - (intOf i).toNat)
    case atStart => exact ⟨0, by omega, rfl, by rw [N2.out.1], Below.refl _ _⟩
    case round =>
      rename_i K' hK'
      have HK' := H1 hK'
      clear hK'
      obtain ⟨j, hj, rfl, rfl, hw⟩ := hrel
      have HB := H1 hw
      by_cases hlt : j < k + 1
      · have hltp : (j : Int) < (l.length : Int) := by have := N1.out.1; omega
        have hj0 : (0 : Int) ≤ (j : Int) := by omega
        have hcj := C3.out wr (HB5.out.trans (hw.mono HB5.out.size)) j (by omega)
        clear hw
        go_wp2_with fail
        refine (iAdd p (sN j) (l.getD j 0) _).mono ?_
        rintro e w6 ⟨rfl, hb⟩
        have HB6 := H1 (HB.out.trans (hb.mono HB.out.size))
        clear hb
        rw [N2.out.2.1 j (by omega)]
        go_wp2_with fail
        go_roundw
        case rel => exact ⟨j + 1, by omega, by go_num, rfl, HB6.out⟩
        case measure => simp [intOf]; omega
      · have hjk : j = k + 1 := by omega
        subst hjk
        have HQ6 := H1 (HQ5.out.on hw)
        have HB6 := H1 (HB5.out.trans (hw.mono HB5.out.size))
        have HC6 := H1 hw
        clear hw
        have hge : ¬ ((((k + 1 : Nat) : Int)) < (l.length : Int)) := by have := N1.out.1; omega
        go_wp2_with fail
        refine HK'.out _ _ ?_
        clear HK'
        go_wp2_with fail
        refine (iPolyOfCircuit p f L wr HQ6.out.gs).mono ?_
        rintro e w6 ⟨fv, rfl, ho, hb⟩
        have HQ7 := H1 ((HQ6.out.on hb).addT ho.trms)
        have HB7 := H1 (HB6.out.trans (hb.mono HB6.out.size))
        have HC7 := H1 (HC6.out.trans (hb.mono HC6.out.size))
        clear ho hb HQ6 HB6 HC6
        obtain ⟨ok, hok⟩ : ∃ b, b = pcOk p L := ⟨_, rfl⟩
        have HOK := H1 hok
        rw [← hok]
        clear hok
        cases ok
        · go_wp2_with fail
          refine wp_loop_rounds 1 ?_
          rw [rounds_succ]
          obtain ⟨d0, d1, d2, _, _⟩ := HQ7.out.pt
          go_wp2_with fail
          refine (iPartsAt p ((k : Int) / 2) x y z f L w6 HQ7.out.gs).mono ?_
          rintro e wl ⟨sv, rfl, ho, hb⟩
          rw [HE2.out] at ho
          have HT := H1 ((HQ7.out.on hb).addI ho.ints)
          have C1 := H1 (HC7.out.trans (hb.mono HC7.out.size))
          clear ho hb d0 d1 d2
          have hlk : (l.length : Int) = (k : Int) + 1 := by have := N1.out.1; omega
          go_wp2_with fail
          refine (iFormalDegree p f L wl HT.out.gs).mono ?_
          rintro e wm ⟨rfl, hb⟩
          replace HT := H1 (HT.out.on hb)
          replace C1 := H1 (C1.out.trans (hb.mono C1.out.size))
          clear hb
          rw [← F1.out]
          obtain ⟨_, fa, fc, rfl, _⟩ := HT.out.gs
          have hll1 : 0 ≤ (L.length : Int) - 1 := by have := N1.out.2; omega
          have hll2 : (L.length : Int) - 1 < (E.length : Int) := by have := N1.out.2; omega
          have hw1 : IntKind.i64.wrap ((L.length : Int) - 1) = (L.length : Int) - 1 := IntWalk.i64_in _ (by omega)
          have hs1 : (k : Int) / 2 + 1 ≤ (lc : Int) := by have := HCP.out; have := N1.out.1; omega
          have hs0 : 0 ≤ (k : Int) / 2 + 1 := by omega
          have hcv := V1.out wm C1.out
          have hs9 := H1 (fun (s : Value) (hs : Ints wm s (l.take (k / 2 + 1))) => sameInts sv s (l.take (k / 2 + 1)) wm (HT.out.i (by simp)) hs)
          by_cases hgt : (k : Int) < fd
          · have hgb : decide ((k : Int) < fd) = true := decide_eq_true hgt
            clear hcv hll1 hll2 hw1
            go_wp2_with fail
            refine (hs9.out _ (ints_take (HT.out.i (v := .slice (some ⟨g, off, none⟩) l.length lc) (l := l) (by simp)) (by omega) lc)).mono ?_
            rintro e wn ⟨rfl, hd⟩
            replace HT := H1 (HT.out.on (hd.below _))
            clear hd
            go_wp2_with fail
            go_ret
            exact ⟨rfl, HT.out.low⟩
          · have hgb : decide ((k : Int) < fd) = false := decide_eq_false hgt
            have hsm : (sN (k + 1) == E.getD (L.length - 1) 0) = true := by rw [N2.out.2.2 (by omega)]; simp
            generalize E.getD (L.length - 1) 0 = ev at hcv hsm
            go_wp2_with fail
            refine (hs9.out _ (ints_take (HT.out.i (v := .slice (some ⟨g, off, none⟩) l.length lc) (l := l) (by simp)) (by omega) lc)).mono ?_
            rintro e wn ⟨rfl, hd⟩
            replace HT := H1 (HT.out.on (hd.below _))
            clear hd
            go_wp2_with fail
            go_ret
            exact ⟨rfl, HT.out.low⟩
        · have P1 := H1 (P3.out HOK.out.symm)
          go_wp2_with fail
          go_loopw [14] (fun i wx => ∃ d : Nat, d ≤ k + 1 ∧ i = .int .i64 d ∧ Below w6.heap.size w6 wx) (fun i _ => k + 1 - (intOf i).toNat)
          case atStart => exact ⟨0, by omega, rfl, Below.refl _ _⟩
          case round =>
            rename_i K2 hK2
            have HK2 := H1 hK2
            clear hK2
            obtain ⟨d, hd, rfl, hw⟩ := hrel
            have HQ8 := H1 (HQ7.out.on hw)
            have HB8 := H1 (HB7.out.trans (hw.mono HB7.out.size))
            have HC8 := H1 (HC7.out.trans (hw.mono HC7.out.size))
            have HW8 := H1 hw
            clear hw
            by_cases hlt : d < k + 1
            · have hltp : (d : Int) ≤ (k : Int) := by omega
              have hltl : (d : Int) < (l.length : Int) := by have := N1.out.1; omega
              have hd0 : (0 : Int) ≤ (d : Int) := by omega
              go_wp2_with fail
              refine (iPartPoly p fv (pcV p L) d _ (HQ8.out.t (by simp))).mono ?_
              rintro e w9 ⟨qv, rfl, ho, hb⟩
              have HQ9 := H1 ((HQ8.out.on hb).addT ho.trms)
              have HB9 := H1 (HB8.out.trans (hb.mono HB8.out.size))
              have HW9 := H1 (HW8.out.trans (hb.mono HW8.out.size))
              clear ho hb HQ8 HB8 HW8
              have HI := H1 (fun w' (hb : Below w9.heap.size w9 w') => iEvalPoly p x y z qv (partL p (pcV p L) d) w' ((HQ9.out.on hb).t (by simp)))
              rw [P1.out d (by omega)] at HI
              have HP := H1 (fun w' (hb : Below w9.heap.size w9 w') => (HQ9.out.on hb).pt)
              have HC := H1 (fun w' (hb : Below w9.heap.size w9 w') => C3.out w' (HB9.out.trans (hb.mono HB9.out.size)) d (by omega))
              generalize l.getD d 0 = r at *
              go_upto_region 19 with fail
              refine wp_region_below (by kernel_rfl) (by kernel_rfl) ?_
              iterate 2 (with_reducible refine wpQuiet_yes ?_ ?_; (focus (kernel_rfl)); intro K hK; go_simp; refine ⟨_, fun _ _ => rfl, ?_⟩; with_reducible refine hK _ ?_; clear hK K)
              (with_reducible refine wpQuiet_yes ?_ ?_; (focus (kernel_rfl)); intro K hK; go_simp; refine ⟨(.agg #[.int .i64 x, .int .i64 y, .int .i64 z]), ?_, ?_⟩; rotate_left; with_reducible refine hK _ ?_; clear hK K; rotate_left)
              · intro w' hw
                obtain ⟨c0, c1, c2, _, _⟩ := HP.out w' hw
                simp only [c0, c1, c2, go_sem, Result.andThen, and_self]
              (with_reducible refine wpQuiet_yes ?_ ?_; (focus (kernel_rfl)); intro K hK; go_simp; refine ⟨(.int .i64 r), ?_, ?_⟩; rotate_left; with_reducible refine hK _ ?_; clear hK K; rotate_left)
              · intro w' hw
                exact (HI.out w' hw).mono fun e w'' ⟨he, h⟩ => ⟨he, hw.trans (h.mono hw.size)⟩
              iterate 3 (with_reducible refine wpQuiet_yes ?_ ?_; (focus (kernel_rfl)); intro K hK; go_simp; refine ⟨_, fun _ _ => rfl, ?_⟩; with_reducible refine hK _ ?_; clear hK K)
              (with_reducible refine wpQuiet_yes ?_ ?_; (focus (kernel_rfl)); intro K hK; go_simp; refine ⟨(.int .i64 r), ?_, ?_⟩; rotate_left; with_reducible refine hK _ ?_; clear hK K; rotate_left)
              · intro w' hw
                simp only [HC.out w' hw, go_sem, Result.andThen, and_self]
              (with_reducible refine wpQuiet_yes ?_ ?_; (focus (kernel_rfl)); intro K hK; go_simp; refine ⟨(.bool false), ?_, ?_⟩; rotate_left; with_reducible refine hK _ ?_; clear hK K; rotate_left)
              · intro w' hw
                simp
              refine wpQuiet_nil fun w2 hb2 => ?_
              have HQX := H1 (HW9.out.trans (hb2.mono HW9.out.size))
              clear hb2
              simp only [Exit.then]
              go_wp2_with fail
              go_roundw
              case rel => exact ⟨d + 1, by omega, by go_num, HQX.out⟩
              case measure => simp [intOf]; omega
            · have hdk : d = k + 1 := by omega
              subst hdk
              have hgt : ¬ ((k + 1 : Nat) : Int) ≤ (k : Int) := by omega
              go_wp2_with fail
              refine HK2.out _ _ ?_
              clear HK2 hgt
              obtain ⟨d0, d1, d2, _, _⟩ := HQ8.out.pt
              go_wp2_with fail
              refine (iPartsAt p ((k : Int) / 2) x y z f L _ HQ8.out.gs).mono ?_
              rintro e wl ⟨sv, rfl, ho, hb⟩
              rw [HE2.out] at ho
              have HT := H1 ((HQ8.out.on hb).addI ho.ints)
              have C1 := H1 (HC8.out.trans (hb.mono HC8.out.size))
              clear ho hb d0 d1 d2
              have hlk : (l.length : Int) = (k : Int) + 1 := by have := N1.out.1; omega
              go_wp2_with fail
              refine (iFormalDegree p f L wl HT.out.gs).mono ?_
              rintro e wm ⟨rfl, hb⟩
              replace HT := H1 (HT.out.on hb)
              replace C1 := H1 (C1.out.trans (hb.mono C1.out.size))
              clear hb
              rw [← F1.out]
              obtain ⟨_, fa, fc, rfl, _⟩ := HT.out.gs
              have hll1 : 0 ≤ (L.length : Int) - 1 := by have := N1.out.2; omega
              have hll2 : (L.length : Int) - 1 < (E.length : Int) := by have := N1.out.2; omega
              have hw1 : IntKind.i64.wrap ((L.length : Int) - 1) = (L.length : Int) - 1 := IntWalk.i64_in _ (by omega)
              have hs1 : (k : Int) / 2 + 1 ≤ (lc : Int) := by have := HCP.out; have := N1.out.1; omega
              have hs0 : 0 ≤ (k : Int) / 2 + 1 := by omega
              have hcv := V1.out wm C1.out
              have hs9 := H1 (fun (s : Value) (hs : Ints wm s (l.take (k / 2 + 1))) => sameInts sv s (l.take (k / 2 + 1)) wm (HT.out.i (by simp)) hs)
              by_cases hgt : (k : Int) < fd
              · have hgb : decide ((k : Int) < fd) = true := decide_eq_true hgt
                clear hcv hll1 hll2 hw1
                go_wp2_with fail
                refine (hs9.out _ (ints_take (HT.out.i (v := .slice (some ⟨g, off, none⟩) l.length lc) (l := l) (by simp)) (by omega) lc)).mono ?_
                rintro e wn ⟨rfl, hd⟩
                replace HT := H1 (HT.out.on (hd.below _))
                clear hd
                go_wp2_with fail
                go_ret
                exact ⟨rfl, HT.out.low⟩
              · have hgb : decide ((k : Int) < fd) = false := decide_eq_false hgt
                have hsm : (sN (k + 1) == E.getD (L.length - 1) 0) = true := by rw [N2.out.2.2 (by omega)]; simp
                generalize E.getD (L.length - 1) 0 = ev at hcv hsm
                go_wp2_with fail
                refine (hs9.out _ (ints_take (HT.out.i (v := .slice (some ⟨g, off, none⟩) l.length lc) (l := l) (by simp)) (by omega) lc)).mono ?_
                rintro e wn ⟨rfl, hd⟩
                replace HT := H1 (HT.out.on (hd.below _))
                clear hd
                go_wp2_with fail
                go_ret
                exact ⟨rfl, HT.out.low⟩
set_option maxHeartbeats 2000000 in
theorem wPartsAt_long (a : Option Addr) (len cap : Nat) (w : World) (h1 : len ≤ 9223372036854775807) (hl : ¬ len ≤ 1048576) :
    Calls Try.prog 10 #[.slice a len cap] w fun e w' => e = .returned (.bool true) ∧ Below w.heap.size w w' := by
  have hp : (1048576 : Int) < (len : Int) := by omega
  go_enter Try.func10, Try.ntmps10
  go_wp2_with fail
  go_ret
  exact ⟨rfl, Below.refl _ _⟩
theorem wPartsAt (a : Option Addr) (len cap : Nat) (w : World) (h : ByteRow w a len cap) :
    Calls Try.prog 10 #[.slice a len cap] w fun e w' => e = .returned (.bool true) ∧ Below w.heap.size w w' := by
  by_cases hl : len ≤ 1048576
  · exact wPartsAt_in a len cap w h hl
  · exact wPartsAt_long a len cap w (Nat.le_trans h.1 h.2.1) hl
end Go.Proofs.Ytlidplmpglpkgaa
