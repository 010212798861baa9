/-
  Contracts of the model's draws of polynomials, on: two of them and an unknown. Conditions: the bytes can be read.
  The walk of the law of PutPoly. Conditions: none but that the bytes can be read.
-/
import Derived.Test.YtegkcfinklcglaaBp23
import Derived.Test.YtegkcfinklcglaaBp25
import Derived.Test.YtegkcfinklcglaaBt1
namespace Go.Proofs.Ytegkcfinklcglaa
open Go.RowKit
theorem trms_takeD {w : World} {a : Option Addr} {n cap : Nat} {L : List Trm} (h : Trms w (.slice a n cap) L) {k : Nat} (hk : k ≤ L.length) (c : Nat) : Trms w (.slice a k c) (L.take k) := by
  obtain ⟨h1, a', cap', he, h2⟩ := h
  injection he with e1 e2 e3
  subst e1
  have hl : (L.take k).length = k := by rw [List.length_take]; omega
  refine ⟨by omega, _, c, by rw [hl], ?_⟩
  rcases h2 with rfl | ⟨g, off, ha, hg, hc⟩
  · left; simp
  · refine .inr ⟨g, off, ha, hg, fun j hj => ?_⟩
    rw [hl] at hj
    have := hc j (by omega)
    rwa [show (L.take k).getD j default = L.getD j default by simp [List.getD_eq_getElem?_getD, hj]]
def DrawTIT (w : World) (e : Ending) (w' : World) : Prop :=
  ∃ (p : Int) (v u : Value) (L M : List Trm) (k : Int), e = .returned (.tuple #[.int .i64 p, v, .int .i64 k, u]) ∧ L.length ≤ 121 ∧ M.length ≤ 121 ∧ (-9 ≤ k ∧ k ≤ 9) ∧ Row w' w.heap.size v L ∧ Row w' w.heap.size u M ∧ Below w.heap.size w w'
set_option maxRecDepth 10000 in
set_option maxHeartbeats 4000000 in
theorem drawPutPoly (a : Option Addr) (len cap : Nat) (w : World) (h : ByteRow w a len cap) :
    Calls Try.prog 44 #[.slice a len cap] w (DrawTIT w) := by
  obtain ⟨R, hR⟩ : ∃ R, R = w.heap.size := ⟨_, rfl⟩
  have HRR := Lib.hid hR
  clear hR
  go_enter Try.func44, Try.ntmps44
  go_wp2_with fail
  refine (open_any a len cap w h).mono ?_
  rintro e w1 ⟨a1, l1, c1, rfl, hR1, hb1⟩
  rw [← HRR.out] at hR1 ⊢
  go_wp2_with fail
  refine (with_any R a1 l1 c1 w1 hR1).mono ?_
  rintro e w2 ⟨p, v, M, k, q1, rfl, hp, hM, hk, hq1, hR2, hr2, hg2⟩
  have HS2 := Lib.hid (QSt.of hR1 hR2 hr2 hg2)
  have HB1 := Lib.hid hb1
  clear hR1 hR2 hr2 hg2 hb1 h
  go_wp2_with fail
  refine (field_pr p w2).mono ?_
  rintro e w3 ⟨f, rfl, hf, rfl⟩
  go_wp2_with fail
  refine (num_new R a1 l1 c1 q1 [1, 2, 1, 7] 4 rfl _ w2 HS2.out.rd (by omega) (by simp) (by simp) ?_).mono ?_
  · intro j hj
    have : j = 0 ∨ j = 1 ∨ j = 2 ∨ j = 3 := by simp at hj; omega
    rcases this with rfl | rfl | rfl | rfl
    all_goals rfl
  rintro e w3 ⟨y, rfl, hy, hR3, hg3⟩
  have hy9 : 0 ≤ y ∧ y ≤ 9 := by simp at hy; omega
  have HS3 := Lib.hid ((HS2.out.on (w' := w2.alloc (.cells #[.int .i64 1, .int .i64 2, .int .i64 1, .int .i64 7] 3)) (Below.alloc (Below.refl _ _) (Nat.le_refl _) _)).pk hR3 hg3)
  clear hR3 hg3 HS2 hy
  go_wp2_with fail
  refine (terms_any R a1 l1 c1 (q1 + 1) f y hf (by omega) (by omega) _ HS3.out.rd (by omega)).mono ?_
  rintro e w4 ⟨u, N, q4, rfl, hN, hq4, hR4, hr4, hg4⟩
  have HS4 := Lib.hid (HS3.out.pk hR4 hg4)
  have hT4 := (hr4.own (by omega)).trms
  have hsh := hr4.shape
  clear hR4 hr4 hg4
  by_cases h3 : 3 < N.length
  · obtain ⟨g, c, rfl, hc⟩ : ∃ g c, u = .slice (some ⟨g, 0, none⟩) N.length c ∧ N.length ≤ c := by
      rcases hsh with ⟨_, h⟩ | ⟨g, c, h, _, _, hc, _⟩
      · rw [h] at h3; simp at h3
      · exact ⟨g, c, h, hc⟩
    have h3p : (3 : Int) < (N.length : Int) := by omega
    have hcp : (3 : Int) ≤ (c : Int) := by omega
    have HTK := Lib.hid (trms_takeD hT4 (k := 3) (by omega) c)
    have hlk : (N.take 3).length ≤ 60 := by rw [List.length_take]; omega
    clear hT4 hsh
    go_wp2_with fail
    refine (bad2_any R a1 l1 c1 q4 _ (N.take 3) hlk w4 HS4.out.rd HTK.out (by omega)).mono ?_
    rintro e w5 ⟨u5, N5, q5, rfl, hN5, hq5, hR5, hr5, hg5⟩
    have hs4 := HS4.out.size
    have S5 := HS4.out.pk hR5 hg5
    have HO := Lib.hid (And.intro (row_base S5.row HB1.out.size) (row_base (row_base hr5 hs4) HB1.out.size))
    have HB := Lib.hid (show Below w.heap.size w w5 from below_readerT HB1.out (HRR.out ▸ S5.gr))
    clear hR5 hg5 hr5 S5
    go_wp2_with fail
    refine bodyPost_ret (v := .tuple #[.int .i64 p, v, .int .i64 k, u5]) (by simp [results, Try.results44, go_sem]) rfl ⟨p, v, u5, M, N5, k, rfl, hM, hN5, hk, HO.out.1, HO.out.2, HB.out⟩
  · obtain ⟨_, ua, uc, rfl, hul⟩ := id hT4
    have h3p : ¬ (3 : Int) < (N.length : Int) := by omega
    have HTK := Lib.hid hT4
    clear hT4 hsh hul
    go_wp2_with fail
    refine (bad2_any R a1 l1 c1 q4 _ N (by omega) w4 HS4.out.rd HTK.out (by omega)).mono ?_
    rintro e w5 ⟨u5, N5, q5, rfl, hN5, hq5, hR5, hr5, hg5⟩
    have hs4 := HS4.out.size
    have S5 := HS4.out.pk hR5 hg5
    have HO := Lib.hid (And.intro (row_base S5.row HB1.out.size) (row_base (row_base hr5 hs4) HB1.out.size))
    have HB := Lib.hid (show Below w.heap.size w w5 from below_readerT HB1.out (HRR.out ▸ S5.gr))
    clear hR5 hg5 hr5 S5
    go_wp2_with fail
    refine bodyPost_ret (v := .tuple #[.int .i64 p, v, .int .i64 k, u5]) (by simp [results, Try.results44, go_sem]) rfl ⟨p, v, u5, M, N5, k, rfl, hM, hN5, hk, HO.out.1, HO.out.2, HB.out⟩
end Go.Proofs.Ytegkcfinklcglaa
namespace Go.Proofs.Ytegkcfinklcglaa
open Go.RowKit
theorem PX.sn {w0 wr : World} {zs : List VT} {X Y : Nat} {x y z : Int} (h : PX w0 zs X x y z wr) (hY : X < Y) (o : Nat) (u : Value) : PX w0 zs X x y z (wr.setCell ⟨Y, o, none⟩ u) :=
  ⟨h.low.setCell (Nat.le_trans h.wx (Nat.le_of_lt hY)) _, fun q hq => by
    obtain ⟨g, h1, h2, h3, h4⟩ := h.rd q hq
    exact ⟨g, h1, h2, by simpa using h3, fun k k1 k2 => (Below.heap_setCell _ _ _ _ (show k ≠ Y by omega)).trans (h4 k k1 k2)⟩,
    ⟨by rw [World.cell?_setCell_other _ _ _ _ (by simp <;> omega)]; exact h.pt.c0, by rw [World.cell?_setCell_other _ _ _ _ (by simp <;> omega)]; exact h.pt.c1, by rw [World.cell?_setCell_other _ _ _ _ (by simp <;> omega)]; exact h.pt.c2, fun i => by rw [World.frozen?_setCell]; exact h.pt.f i, by simpa using h.pt.sz⟩, h.wx⟩
theorem PtB.sn {w : World} {X Y : Nat} {x y z : Int} (h : PtB w X x y z) (hY : X < Y) (o : Nat) (u : Value) : PtB (w.setCell ⟨Y, o, none⟩ u) X x y z :=
  ⟨by rw [World.cell?_setCell_other _ _ _ _ (by simp <;> omega)]; exact h.c0, by rw [World.cell?_setCell_other _ _ _ _ (by simp <;> omega)]; exact h.c1, by rw [World.cell?_setCell_other _ _ _ _ (by simp <;> omega)]; exact h.c2, fun i => by rw [World.frozen?_setCell]; exact h.f i, by simpa using h.sz⟩
set_option maxRecDepth 100000 in
set_option maxHeartbeats 16000000 in
theorem wPutPoly_in (a : Option Addr) (len cap : Nat) (w : World) (h : ByteRow w a len cap) (hl : len ≤ 1048576) :
    Calls Try.prog 8 #[.slice a len cap] w fun e w' => e = .returned (.bool true) ∧ Below w.heap.size w w' := by
  have hlp : (len : Int) ≤ 1048576 := by omega
  have HB' := Lib.hid h
  have HD := Lib.hid (drawPutPoly a len cap w h)
  clear h
  go_enter Try.func8, Try.ntmps8
  go_wp2_with fail
  refine HD.out.mono ?_
  rintro e w1 ⟨p, f, g, L, M, v, rfl, hL, hM, -, hr1, hr2, hb1⟩
  have HK1 := Lib.hid (show PK w [(f, L), (g, M)] w1 from ⟨hb1, fun z hz => by
    rcases List.mem_cons.1 hz with rfl | hz
    · exact (hr1.own (by omega)).trms
    · rcases List.mem_cons.1 hz with rfl | hz
      · exact (hr2.own (by omega)).trms
      · cases hz⟩)
  clear hr1 hr2 hb1 HD
  go_wp2_with fail
  refine (iPutPoly p v f g L M w1 (HK1.out.g (by simp)) (HK1.out.g (by simp))).mono ?_
  rintro e w2 ⟨hv, rfl, ho, hb⟩
  have HK2 := Lib.hid ((HK1.out.on hb).add ho.trms)
  clear ho hb HK1
  go_wp2_with fail
  refine (sPutPoly p v f g L M w2 (HK2.out.g (by simp)) (HK2.out.g (by simp))).mono ?_
  rintro e w3 ⟨wv, rfl, ho, hb⟩
  have HK3 := Lib.hid ((HK2.out.on hb).add ho.trms)
  clear ho hb HK2
  obtain ⟨ok, hok⟩ : ∃ ok, ok = putOk p L v M := ⟨_, rfl⟩
  have HOK := Lib.hid hok
  rw [← hok]
  clear hok
  have hbb : (ok != ok) = false := by cases ok <;> rfl
  go_wp2_with fail
  refine (acP hv wv (putV p L v M) w3 (HK3.out.g (by simp)) (HK3.out.g (by simp))).mono ?_
  rintro e w4 ⟨rfl, hb⟩
  have HK4 := Lib.hid (HK3.out.on hb)
  clear hb HK3
  cases ok
  · go_wp2_with fail
    refine (acP hv wv (putV p L v M) w4 (HK4.out.g (by simp)) (HK4.out.g (by simp))).mono ?_
    rintro e w5 ⟨rfl, hb⟩
    have HK5 := Lib.hid (HK4.out.on hb)
    clear hb HK4
    go_wp2_with fail
    go_ret
    exact ⟨rfl, HK5.out.low⟩
  · have hF := putF HOK.out.symm
    generalize putV p L v M = S at HK4 hF
    have HF := Lib.hid hF
    have hv3 := hF.hv
    clear hF HOK hbb
    rcases hv3 with rfl | rfl | rfl
    · go_wp2_with fail
      refine (drawEvalPoly a len cap w4 (HB'.out.below HK4.out.low)).mono ?_
      rintro e w8 ⟨p', f', L', x, y, z, rfl, hL', hr', hb⟩
      have HK8 := Lib.hid (PX.new (HK4.out.on hb) x y z)
      clear hr' hb HK4
      obtain ⟨X, hX⟩ : ∃ X, X = w8.heap.size := ⟨_, rfl⟩
      obtain ⟨W8, hW8⟩ : ∃ W, W = w8.alloc (Obj.cells #[.int .i64 x, .int .i64 y, .int .i64 z] 30) := ⟨_, rfl⟩
      rw [← hX, ← hW8] at HK8
      have HW8 := Lib.hid (And.intro hX hW8)
      clear hX hW8
      go_upto_region 9 with fail
      rw [← HW8.out.2, ← HW8.out.1]
      clear HW8
      go_wp2_with fail
      refine wp_loop_rounds 4 ?_
      rw [rounds_succ]
      have c0 := HK8.out.pt.c0
      have f0 := HK8.out.pt.f 0
      go_wp2_with fail
      refine (iRed p x _ HF.out.hp).mono ?_
      rintro e w9 ⟨rfl, rfl⟩
      have HK9 := Lib.hid (HK8.out.st (HK8.out.pt.s0 (x % p)))
      clear HK8
      go_wp2_with fail
      generalize W8.setCell ⟨X, 0, none⟩ (.int .i64 (x % p)) = W9 at *
      clear c0 f0
      rw [rounds_succ]
      have c1 := HK9.out.pt.c1
      have f1 := HK9.out.pt.f 1
      go_wp2_with fail
      refine (iRed p y _ HF.out.hp).mono ?_
      rintro e w10 ⟨rfl, rfl⟩
      have HK10 := Lib.hid (HK9.out.st (HK9.out.pt.s1 (y % p)))
      clear HK9
      go_wp2_with fail
      generalize W9.setCell ⟨X, 1, none⟩ (.int .i64 (y % p)) = W10 at *
      clear c1 f1
      rw [rounds_succ]
      have c2 := HK10.out.pt.c2
      have f2 := HK10.out.pt.f 2
      go_wp2_with fail
      refine (iRed p z _ HF.out.hp).mono ?_
      rintro e w11 ⟨rfl, rfl⟩
      have HK11 := Lib.hid (HK10.out.st (HK10.out.pt.s2 (z % p)))
      clear HK10
      go_wp2_with fail
      generalize W10.setCell ⟨X, 2, none⟩ (.int .i64 (z % p)) = W11 at *
      clear c2 f2
      rw [rounds_succ]
      have HE := Lib.hid (red3 HF.out.hp x y z)
      generalize x % p = x at *
      generalize y % p = y at *
      generalize z % p = z at *
      have c0 := HK11.out.pt.c0
      have c1 := HK11.out.pt.c1
      have c2 := HK11.out.pt.c2
      obtain ⟨Y, hY⟩ : ∃ Y, Y = W11.heap.size := ⟨_, rfl⟩
      obtain ⟨W14, hW14⟩ : ∃ W, W = W11.alloc (Obj.cells #[.int .i64 x, .int .i64 y, .int .i64 z] 30) := ⟨_, rfl⟩
      have HY14 := Lib.hid (show PtB W14 Y x y z by rw [hW14, hY]; exact PtB.new W11 x y z)
      have HK14 := Lib.hid (show PX w [(wv, S), (hv, S), (f, L), (g, M)] X x y z W14 by rw [hW14]; exact HK11.out.on (Below.alloc (Below.refl _ _) (Nat.le_refl _) _))
      have HXY := Lib.hid (show X < Y by rw [hY]; exact HK11.out.pt.sz)
      have HW14 := Lib.hid (And.intro hY hW14)
      clear hY hW14 HK11
      go_upto_region 15 with fail
      rw [← HW14.out.2, ← HW14.out.1]
      clear HW14 c0 c1 c2
      have c0 := HK14.out.pt.c0
      have c1 := HK14.out.pt.c1
      have c2 := HK14.out.pt.c2
      go_wp2_with fail
      refine (iEvalPoly p x y z g M W14 (HK14.out.g (by simp))).mono ?_
      rintro e w15 ⟨rfl, hb⟩
      have HK15 := Lib.hid (HK14.out.on hb)
      have HY15 := Lib.hid (HY14.out.on hb)
      clear hb HK14 HY14 c0 c1 c2
      obtain ⟨ev, hev⟩ : ∃ ev, ev = evV p x y z M := ⟨_, rfl⟩
      have HEV := Lib.hid (show isE3 p ev y z = true ∧ evV p x y z S = evV p ev y z L from HF.out.ev x y z HE.out ev hev)
      rw [← hev]
      clear hev
      have yv := HY15.out.c0
      have fv := HY15.out.f 0
      have HK16 := Lib.hid (HK15.out.sn HXY.out 0 (.int .i64 ev))
      have HY16 := Lib.hid (HY15.out.s0 ev)
      clear HK15 HY15
      go_upto_region 16 with fail
      generalize w15.setCell ⟨Y, 0, none⟩ (.int .i64 ev) = W16 at *
      clear yv fv
      obtain ⟨U, hU⟩ : ∃ U, U = W16.heap.size := ⟨_, rfl⟩
      obtain ⟨W17, hW17⟩ : ∃ W, W = W16.alloc (Obj.cells #[.int .i64 0, .int .i64 0, .int .i64 0, .int .i64 1] 32) := ⟨_, rfl⟩
      have HU17 := Lib.hid (show TmA W17 U ⟨0, 0, 0, 1⟩ by rw [hW17, hU]; exact TmA.new W16 ⟨0, 0, 0, 1⟩)
      have HK17 := Lib.hid (show PX w [(wv, S), (hv, S), (f, L), (g, M)] X x y z W17 by rw [hW17]; exact HK16.out.on (Below.alloc (Below.refl _ _) (Nat.le_refl _) _))
      have HY17 := Lib.hid (show PtB W17 Y ev y z by rw [hW17]; exact HY16.out.on (Below.alloc (Below.refl _ _) (Nat.le_refl _) _))
      have HYU := Lib.hid (show Y < U by rw [hU]; exact HY16.out.sz)
      have HXU := Lib.hid (Nat.lt_trans HXY.out HYU.out)
      have HW17 := Lib.hid (And.intro hU hW17)
      clear hU hW17 HK16 HY16
      go_upto_region 17 with fail
      rw [← HW17.out.2, ← HW17.out.1]
      clear HW17
      have uv : W17.cell? ⟨U, 0, none⟩ = some (.int .i64 0) := HU17.out.t.1
      have fu := HU17.out.f 0
      have HU18 := Lib.hid (HU17.out.s0 1)
      have HK18 := Lib.hid (HK17.out.sn HXU.out 0 (.int .i64 1))
      have HY18 := Lib.hid (HY17.out.sn HYU.out 0 (.int .i64 1))
      clear HU17 HK17 HY17
      go_upto_region 18 with fail
      generalize W17.setCell ⟨U, 0, none⟩ (.int .i64 1) = W18 at *
      clear uv fu
      have HT := Lib.hid (show Trms W18 (.slice (some ⟨U, 0, none⟩) 1 1) [unkT 0] from one_trms HU18.out.t HU18.out.sz)
      clear HU18
      go_wp2_with fail
      refine (iPutPoly p 0 f _ L [unkT 0] W18 (HK18.out.g (by simp)) HT.out).mono ?_
      rw [HF.out.sb]
      rintro e w19 ⟨sv, rfl, ho, hb⟩
      rw [HF.out.sv] at ho
      have HK19 := Lib.hid (HK18.out.on hb)
      have HY19 := Lib.hid (HY18.out.on hb)
      have HS := Lib.hid ho.trms
      clear ho hb HK18 HY18 HT
      have HI1 := Lib.hid (fun w' (hb : Below w19.heap.size w19 w') => iEvalPoly p x y z hv S w' ((HK19.out.on hb).g (by simp)))
      have HI2 := Lib.hid (fun w' (hb : Below w19.heap.size w19 w') => iEvalPoly p ev y z f L w' ((HK19.out.on hb).g (by simp)))
      have HP1 := Lib.hid (fun w' (hb : Below w19.heap.size w19 w') => (HK19.out.on hb).pt)
      have HP2 := Lib.hid (fun w' (hb : Below w19.heap.size w19 w') => HY19.out.on hb)
      have HA := Lib.hid (fun w' (hb : Below w19.heap.size w19 w') => acP sv f L w' (HS.out.below hb) ((HK19.out.on hb).g (by simp)))
      have HEq := Lib.hid HEV.out.2
      generalize evV p x y z S = es at *
      generalize evV p ev y z L = el at *
      go_upto_region 19 with fail
      refine wp_region_below (by kernel_rfl) (by kernel_rfl) ?_
      iterate 2 (with_reducible refine wpQuiet_yes ?_ ?_; (focus (kernel_rfl)); intro K hK; go_simp; refine ⟨_, fun _ _ => rfl, ?_⟩; with_reducible refine hK _ ?_; clear hK K)
      (with_reducible refine wpQuiet_yes ?_ ?_; (focus (kernel_rfl)); intro K hK; go_simp; refine ⟨(.agg #[.int .i64 x, .int .i64 y, .int .i64 z]), ?_, ?_⟩; rotate_left; with_reducible refine hK _ ?_; clear hK K; rotate_left)
      · intro w' hw
        obtain ⟨c0, c1, c2, _, _⟩ := HP1.out w' hw
        simp only [c0, c1, c2, go_sem, Result.andThen, and_self]
      (with_reducible refine wpQuiet_yes ?_ ?_; (focus (kernel_rfl)); intro K hK; go_simp; refine ⟨(.int .i64 es), ?_, ?_⟩; rotate_left; with_reducible refine hK _ ?_; clear hK K; rotate_left)
      · intro w' hw
        exact (HI1.out w' hw).mono fun e w'' ⟨he, h⟩ => ⟨he, hw.trans (h.mono hw.size)⟩
      iterate 2 (with_reducible refine wpQuiet_yes ?_ ?_; (focus (kernel_rfl)); intro K hK; go_simp; refine ⟨_, fun _ _ => rfl, ?_⟩; with_reducible refine hK _ ?_; clear hK K)
      (with_reducible refine wpQuiet_yes ?_ ?_; (focus (kernel_rfl)); intro K hK; go_simp; refine ⟨(.agg #[.int .i64 ev, .int .i64 y, .int .i64 z]), ?_, ?_⟩; rotate_left; with_reducible refine hK _ ?_; clear hK K; rotate_left)
      · intro w' hw
        obtain ⟨c0, c1, c2, _, _⟩ := HP2.out w' hw
        simp only [c0, c1, c2, go_sem, Result.andThen, and_self]
      (with_reducible refine wpQuiet_yes ?_ ?_; (focus (kernel_rfl)); intro K hK; go_simp; refine ⟨(.int .i64 es), ?_, ?_⟩; rotate_left; with_reducible refine hK _ ?_; clear hK K; rotate_left)
      · intro w' hw
        rw [HEq.out]
        exact (HI2.out w' hw).mono fun e w'' ⟨he, h⟩ => ⟨he, hw.trans (h.mono hw.size)⟩
      (with_reducible refine wpQuiet_yes ?_ ?_; (focus (kernel_rfl)); intro K hK; go_simp; refine ⟨(.bool true), ?_, ?_⟩; rotate_left; with_reducible refine hK _ ?_; clear hK K; rotate_left)
      · intro w' hw
        simp
      iterate 6 (with_reducible refine wpQuiet_yes ?_ ?_; (focus (kernel_rfl)); intro K hK; go_simp; refine ⟨_, fun _ _ => rfl, ?_⟩; with_reducible refine hK _ ?_; clear hK K)
      (with_reducible refine wpQuiet_yes ?_ ?_; (focus (kernel_rfl)); intro K hK; go_simp; refine ⟨(.bool true), ?_, ?_⟩; rotate_left; with_reducible refine hK _ ?_; clear hK K; rotate_left)
      · intro w' hw
        exact (HA.out w' hw).mono fun e w'' ⟨he, h⟩ => ⟨he, hw.trans (h.mono hw.size)⟩
      (with_reducible refine wpQuiet_yes ?_ ?_; (focus (kernel_rfl)); intro K hK; go_simp; refine ⟨_, fun _ _ => rfl, ?_⟩; with_reducible refine hK _ ?_; clear hK K)
      (with_reducible refine wpQuiet_yes ?_ ?_; (focus (kernel_rfl)); intro K hK; go_simp; refine ⟨_, fun _ _ => rfl, ?_⟩; with_reducible refine hK _ ?_; clear hK K)
      refine wpQuiet_nil fun w2 hb2 => ?_
      have HQ := Lib.hid ((HK19.out.on hb2).low)
      clear hb2
      simp only [Exit.then]
      go_wp2_with fail
      go_ret
      exact ⟨rfl, HQ.out⟩
    · go_wp2_with fail
      refine (drawEvalPoly a len cap w4 (HB'.out.below HK4.out.low)).mono ?_
      rintro e w8 ⟨p', f', L', x, y, z, rfl, hL', hr', hb⟩
      have HK8 := Lib.hid (PX.new (HK4.out.on hb) x y z)
      clear hr' hb HK4
      obtain ⟨X, hX⟩ : ∃ X, X = w8.heap.size := ⟨_, rfl⟩
      obtain ⟨W8, hW8⟩ : ∃ W, W = w8.alloc (Obj.cells #[.int .i64 x, .int .i64 y, .int .i64 z] 30) := ⟨_, rfl⟩
      rw [← hX, ← hW8] at HK8
      have HW8 := Lib.hid (And.intro hX hW8)
      clear hX hW8
      go_upto_region 9 with fail
      rw [← HW8.out.2, ← HW8.out.1]
      clear HW8
      go_wp2_with fail
      refine wp_loop_rounds 4 ?_
      rw [rounds_succ]
      have c0 := HK8.out.pt.c0
      have f0 := HK8.out.pt.f 0
      go_wp2_with fail
      refine (iRed p x _ HF.out.hp).mono ?_
      rintro e w9 ⟨rfl, rfl⟩
      have HK9 := Lib.hid (HK8.out.st (HK8.out.pt.s0 (x % p)))
      clear HK8
      go_wp2_with fail
      generalize W8.setCell ⟨X, 0, none⟩ (.int .i64 (x % p)) = W9 at *
      clear c0 f0
      rw [rounds_succ]
      have c1 := HK9.out.pt.c1
      have f1 := HK9.out.pt.f 1
      go_wp2_with fail
      refine (iRed p y _ HF.out.hp).mono ?_
      rintro e w10 ⟨rfl, rfl⟩
      have HK10 := Lib.hid (HK9.out.st (HK9.out.pt.s1 (y % p)))
      clear HK9
      go_wp2_with fail
      generalize W9.setCell ⟨X, 1, none⟩ (.int .i64 (y % p)) = W10 at *
      clear c1 f1
      rw [rounds_succ]
      have c2 := HK10.out.pt.c2
      have f2 := HK10.out.pt.f 2
      go_wp2_with fail
      refine (iRed p z _ HF.out.hp).mono ?_
      rintro e w11 ⟨rfl, rfl⟩
      have HK11 := Lib.hid (HK10.out.st (HK10.out.pt.s2 (z % p)))
      clear HK10
      go_wp2_with fail
      generalize W10.setCell ⟨X, 2, none⟩ (.int .i64 (z % p)) = W11 at *
      clear c2 f2
      rw [rounds_succ]
      have HE := Lib.hid (red3 HF.out.hp x y z)
      generalize x % p = x at *
      generalize y % p = y at *
      generalize z % p = z at *
      have c0 := HK11.out.pt.c0
      have c1 := HK11.out.pt.c1
      have c2 := HK11.out.pt.c2
      obtain ⟨Y, hY⟩ : ∃ Y, Y = W11.heap.size := ⟨_, rfl⟩
      obtain ⟨W14, hW14⟩ : ∃ W, W = W11.alloc (Obj.cells #[.int .i64 x, .int .i64 y, .int .i64 z] 30) := ⟨_, rfl⟩
      have HY14 := Lib.hid (show PtB W14 Y x y z by rw [hW14, hY]; exact PtB.new W11 x y z)
      have HK14 := Lib.hid (show PX w [(wv, S), (hv, S), (f, L), (g, M)] X x y z W14 by rw [hW14]; exact HK11.out.on (Below.alloc (Below.refl _ _) (Nat.le_refl _) _))
      have HXY := Lib.hid (show X < Y by rw [hY]; exact HK11.out.pt.sz)
      have HW14 := Lib.hid (And.intro hY hW14)
      clear hY hW14 HK11
      go_upto_region 15 with fail
      rw [← HW14.out.2, ← HW14.out.1]
      clear HW14 c0 c1 c2
      have c0 := HK14.out.pt.c0
      have c1 := HK14.out.pt.c1
      have c2 := HK14.out.pt.c2
      go_wp2_with fail
      refine (iEvalPoly p x y z g M W14 (HK14.out.g (by simp))).mono ?_
      rintro e w15 ⟨rfl, hb⟩
      have HK15 := Lib.hid (HK14.out.on hb)
      have HY15 := Lib.hid (HY14.out.on hb)
      clear hb HK14 HY14 c0 c1 c2
      obtain ⟨ev, hev⟩ : ∃ ev, ev = evV p x y z M := ⟨_, rfl⟩
      have HEV := Lib.hid (show isE3 p x ev z = true ∧ evV p x y z S = evV p x ev z L from HF.out.ev x y z HE.out ev hev)
      rw [← hev]
      clear hev
      have yv := HY15.out.c1
      have fv := HY15.out.f 1
      have HK16 := Lib.hid (HK15.out.sn HXY.out 1 (.int .i64 ev))
      have HY16 := Lib.hid (HY15.out.s1 ev)
      clear HK15 HY15
      go_upto_region 16 with fail
      generalize w15.setCell ⟨Y, 1, none⟩ (.int .i64 ev) = W16 at *
      clear yv fv
      obtain ⟨U, hU⟩ : ∃ U, U = W16.heap.size := ⟨_, rfl⟩
      obtain ⟨W17, hW17⟩ : ∃ W, W = W16.alloc (Obj.cells #[.int .i64 0, .int .i64 0, .int .i64 0, .int .i64 1] 32) := ⟨_, rfl⟩
      have HU17 := Lib.hid (show TmA W17 U ⟨0, 0, 0, 1⟩ by rw [hW17, hU]; exact TmA.new W16 ⟨0, 0, 0, 1⟩)
      have HK17 := Lib.hid (show PX w [(wv, S), (hv, S), (f, L), (g, M)] X x y z W17 by rw [hW17]; exact HK16.out.on (Below.alloc (Below.refl _ _) (Nat.le_refl _) _))
      have HY17 := Lib.hid (show PtB W17 Y x ev z by rw [hW17]; exact HY16.out.on (Below.alloc (Below.refl _ _) (Nat.le_refl _) _))
      have HYU := Lib.hid (show Y < U by rw [hU]; exact HY16.out.sz)
      have HXU := Lib.hid (Nat.lt_trans HXY.out HYU.out)
      have HW17 := Lib.hid (And.intro hU hW17)
      clear hU hW17 HK16 HY16
      go_upto_region 17 with fail
      rw [← HW17.out.2, ← HW17.out.1]
      clear HW17
      have uv : W17.cell? ⟨U, 1, none⟩ = some (.int .i64 0) := HU17.out.t.2.1
      have fu := HU17.out.f 1
      have HU18 := Lib.hid (HU17.out.s1 1)
      have HK18 := Lib.hid (HK17.out.sn HXU.out 1 (.int .i64 1))
      have HY18 := Lib.hid (HY17.out.sn HYU.out 1 (.int .i64 1))
      clear HU17 HK17 HY17
      go_upto_region 18 with fail
      generalize W17.setCell ⟨U, 1, none⟩ (.int .i64 1) = W18 at *
      clear uv fu
      have HT := Lib.hid (show Trms W18 (.slice (some ⟨U, 0, none⟩) 1 1) [unkT 1] from one_trms HU18.out.t HU18.out.sz)
      clear HU18
      go_wp2_with fail
      refine (iPutPoly p 1 f _ L [unkT 1] W18 (HK18.out.g (by simp)) HT.out).mono ?_
      rw [HF.out.sb]
      rintro e w19 ⟨sv, rfl, ho, hb⟩
      rw [HF.out.sv] at ho
      have HK19 := Lib.hid (HK18.out.on hb)
      have HY19 := Lib.hid (HY18.out.on hb)
      have HS := Lib.hid ho.trms
      clear ho hb HK18 HY18 HT
      have HI1 := Lib.hid (fun w' (hb : Below w19.heap.size w19 w') => iEvalPoly p x y z hv S w' ((HK19.out.on hb).g (by simp)))
      have HI2 := Lib.hid (fun w' (hb : Below w19.heap.size w19 w') => iEvalPoly p x ev z f L w' ((HK19.out.on hb).g (by simp)))
      have HP1 := Lib.hid (fun w' (hb : Below w19.heap.size w19 w') => (HK19.out.on hb).pt)
      have HP2 := Lib.hid (fun w' (hb : Below w19.heap.size w19 w') => HY19.out.on hb)
      have HA := Lib.hid (fun w' (hb : Below w19.heap.size w19 w') => acP sv f L w' (HS.out.below hb) ((HK19.out.on hb).g (by simp)))
      have HEq := Lib.hid HEV.out.2
      generalize evV p x y z S = es at *
      generalize evV p x ev z L = el at *
      go_upto_region 19 with fail
      refine wp_region_below (by kernel_rfl) (by kernel_rfl) ?_
      iterate 2 (with_reducible refine wpQuiet_yes ?_ ?_; (focus (kernel_rfl)); intro K hK; go_simp; refine ⟨_, fun _ _ => rfl, ?_⟩; with_reducible refine hK _ ?_; clear hK K)
      (with_reducible refine wpQuiet_yes ?_ ?_; (focus (kernel_rfl)); intro K hK; go_simp; refine ⟨(.agg #[.int .i64 x, .int .i64 y, .int .i64 z]), ?_, ?_⟩; rotate_left; with_reducible refine hK _ ?_; clear hK K; rotate_left)
      · intro w' hw
        obtain ⟨c0, c1, c2, _, _⟩ := HP1.out w' hw
        simp only [c0, c1, c2, go_sem, Result.andThen, and_self]
      (with_reducible refine wpQuiet_yes ?_ ?_; (focus (kernel_rfl)); intro K hK; go_simp; refine ⟨(.int .i64 es), ?_, ?_⟩; rotate_left; with_reducible refine hK _ ?_; clear hK K; rotate_left)
      · intro w' hw
        exact (HI1.out w' hw).mono fun e w'' ⟨he, h⟩ => ⟨he, hw.trans (h.mono hw.size)⟩
      iterate 2 (with_reducible refine wpQuiet_yes ?_ ?_; (focus (kernel_rfl)); intro K hK; go_simp; refine ⟨_, fun _ _ => rfl, ?_⟩; with_reducible refine hK _ ?_; clear hK K)
      (with_reducible refine wpQuiet_yes ?_ ?_; (focus (kernel_rfl)); intro K hK; go_simp; refine ⟨(.agg #[.int .i64 x, .int .i64 ev, .int .i64 z]), ?_, ?_⟩; rotate_left; with_reducible refine hK _ ?_; clear hK K; rotate_left)
      · intro w' hw
        obtain ⟨c0, c1, c2, _, _⟩ := HP2.out w' hw
        simp only [c0, c1, c2, go_sem, Result.andThen, and_self]
      (with_reducible refine wpQuiet_yes ?_ ?_; (focus (kernel_rfl)); intro K hK; go_simp; refine ⟨(.int .i64 es), ?_, ?_⟩; rotate_left; with_reducible refine hK _ ?_; clear hK K; rotate_left)
      · intro w' hw
        rw [HEq.out]
        exact (HI2.out w' hw).mono fun e w'' ⟨he, h⟩ => ⟨he, hw.trans (h.mono hw.size)⟩
      (with_reducible refine wpQuiet_yes ?_ ?_; (focus (kernel_rfl)); intro K hK; go_simp; refine ⟨(.bool true), ?_, ?_⟩; rotate_left; with_reducible refine hK _ ?_; clear hK K; rotate_left)
      · intro w' hw
        simp
      iterate 6 (with_reducible refine wpQuiet_yes ?_ ?_; (focus (kernel_rfl)); intro K hK; go_simp; refine ⟨_, fun _ _ => rfl, ?_⟩; with_reducible refine hK _ ?_; clear hK K)
      (with_reducible refine wpQuiet_yes ?_ ?_; (focus (kernel_rfl)); intro K hK; go_simp; refine ⟨(.bool true), ?_, ?_⟩; rotate_left; with_reducible refine hK _ ?_; clear hK K; rotate_left)
      · intro w' hw
        exact (HA.out w' hw).mono fun e w'' ⟨he, h⟩ => ⟨he, hw.trans (h.mono hw.size)⟩
      (with_reducible refine wpQuiet_yes ?_ ?_; (focus (kernel_rfl)); intro K hK; go_simp; refine ⟨_, fun _ _ => rfl, ?_⟩; with_reducible refine hK _ ?_; clear hK K)
      (with_reducible refine wpQuiet_yes ?_ ?_; (focus (kernel_rfl)); intro K hK; go_simp; refine ⟨_, fun _ _ => rfl, ?_⟩; with_reducible refine hK _ ?_; clear hK K)
      refine wpQuiet_nil fun w2 hb2 => ?_
      have HQ := Lib.hid ((HK19.out.on hb2).low)
      clear hb2
      simp only [Exit.then]
      go_wp2_with fail
      go_ret
      exact ⟨rfl, HQ.out⟩
    · go_wp2_with fail
      refine (drawEvalPoly a len cap w4 (HB'.out.below HK4.out.low)).mono ?_
      rintro e w8 ⟨p', f', L', x, y, z, rfl, hL', hr', hb⟩
      have HK8 := Lib.hid (PX.new (HK4.out.on hb) x y z)
      clear hr' hb HK4
      obtain ⟨X, hX⟩ : ∃ X, X = w8.heap.size := ⟨_, rfl⟩
      obtain ⟨W8, hW8⟩ : ∃ W, W = w8.alloc (Obj.cells #[.int .i64 x, .int .i64 y, .int .i64 z] 30) := ⟨_, rfl⟩
      rw [← hX, ← hW8] at HK8
      have HW8 := Lib.hid (And.intro hX hW8)
      clear hX hW8
      go_upto_region 9 with fail
      rw [← HW8.out.2, ← HW8.out.1]
      clear HW8
      go_wp2_with fail
      refine wp_loop_rounds 4 ?_
      rw [rounds_succ]
      have c0 := HK8.out.pt.c0
      have f0 := HK8.out.pt.f 0
      go_wp2_with fail
      refine (iRed p x _ HF.out.hp).mono ?_
      rintro e w9 ⟨rfl, rfl⟩
      have HK9 := Lib.hid (HK8.out.st (HK8.out.pt.s0 (x % p)))
      clear HK8
      go_wp2_with fail
      generalize W8.setCell ⟨X, 0, none⟩ (.int .i64 (x % p)) = W9 at *
      clear c0 f0
      rw [rounds_succ]
      have c1 := HK9.out.pt.c1
      have f1 := HK9.out.pt.f 1
      go_wp2_with fail
      refine (iRed p y _ HF.out.hp).mono ?_
      rintro e w10 ⟨rfl, rfl⟩
      have HK10 := Lib.hid (HK9.out.st (HK9.out.pt.s1 (y % p)))
      clear HK9
      go_wp2_with fail
      generalize W9.setCell ⟨X, 1, none⟩ (.int .i64 (y % p)) = W10 at *
      clear c1 f1
      rw [rounds_succ]
      have c2 := HK10.out.pt.c2
      have f2 := HK10.out.pt.f 2
      go_wp2_with fail
      refine (iRed p z _ HF.out.hp).mono ?_
      rintro e w11 ⟨rfl, rfl⟩
      have HK11 := Lib.hid (HK10.out.st (HK10.out.pt.s2 (z % p)))
      clear HK10
      go_wp2_with fail
      generalize W10.setCell ⟨X, 2, none⟩ (.int .i64 (z % p)) = W11 at *
      clear c2 f2
      rw [rounds_succ]
      have HE := Lib.hid (red3 HF.out.hp x y z)
      generalize x % p = x at *
      generalize y % p = y at *
      generalize z % p = z at *
      have c0 := HK11.out.pt.c0
      have c1 := HK11.out.pt.c1
      have c2 := HK11.out.pt.c2
      obtain ⟨Y, hY⟩ : ∃ Y, Y = W11.heap.size := ⟨_, rfl⟩
      obtain ⟨W14, hW14⟩ : ∃ W, W = W11.alloc (Obj.cells #[.int .i64 x, .int .i64 y, .int .i64 z] 30) := ⟨_, rfl⟩
      have HY14 := Lib.hid (show PtB W14 Y x y z by rw [hW14, hY]; exact PtB.new W11 x y z)
      have HK14 := Lib.hid (show PX w [(wv, S), (hv, S), (f, L), (g, M)] X x y z W14 by rw [hW14]; exact HK11.out.on (Below.alloc (Below.refl _ _) (Nat.le_refl _) _))
      have HXY := Lib.hid (show X < Y by rw [hY]; exact HK11.out.pt.sz)
      have HW14 := Lib.hid (And.intro hY hW14)
      clear hY hW14 HK11
      go_upto_region 15 with fail
      rw [← HW14.out.2, ← HW14.out.1]
      clear HW14 c0 c1 c2
      have c0 := HK14.out.pt.c0
      have c1 := HK14.out.pt.c1
      have c2 := HK14.out.pt.c2
      go_wp2_with fail
      refine (iEvalPoly p x y z g M W14 (HK14.out.g (by simp))).mono ?_
      rintro e w15 ⟨rfl, hb⟩
      have HK15 := Lib.hid (HK14.out.on hb)
      have HY15 := Lib.hid (HY14.out.on hb)
      clear hb HK14 HY14 c0 c1 c2
      obtain ⟨ev, hev⟩ : ∃ ev, ev = evV p x y z M := ⟨_, rfl⟩
      have HEV := Lib.hid (show isE3 p x y ev = true ∧ evV p x y z S = evV p x y ev L from HF.out.ev x y z HE.out ev hev)
      rw [← hev]
      clear hev
      have yv := HY15.out.c2
      have fv := HY15.out.f 2
      have HK16 := Lib.hid (HK15.out.sn HXY.out 2 (.int .i64 ev))
      have HY16 := Lib.hid (HY15.out.s2 ev)
      clear HK15 HY15
      go_upto_region 16 with fail
      generalize w15.setCell ⟨Y, 2, none⟩ (.int .i64 ev) = W16 at *
      clear yv fv
      obtain ⟨U, hU⟩ : ∃ U, U = W16.heap.size := ⟨_, rfl⟩
      obtain ⟨W17, hW17⟩ : ∃ W, W = W16.alloc (Obj.cells #[.int .i64 0, .int .i64 0, .int .i64 0, .int .i64 1] 32) := ⟨_, rfl⟩
      have HU17 := Lib.hid (show TmA W17 U ⟨0, 0, 0, 1⟩ by rw [hW17, hU]; exact TmA.new W16 ⟨0, 0, 0, 1⟩)
      have HK17 := Lib.hid (show PX w [(wv, S), (hv, S), (f, L), (g, M)] X x y z W17 by rw [hW17]; exact HK16.out.on (Below.alloc (Below.refl _ _) (Nat.le_refl _) _))
      have HY17 := Lib.hid (show PtB W17 Y x y ev by rw [hW17]; exact HY16.out.on (Below.alloc (Below.refl _ _) (Nat.le_refl _) _))
      have HYU := Lib.hid (show Y < U by rw [hU]; exact HY16.out.sz)
      have HXU := Lib.hid (Nat.lt_trans HXY.out HYU.out)
      have HW17 := Lib.hid (And.intro hU hW17)
      clear hU hW17 HK16 HY16
      go_upto_region 17 with fail
      rw [← HW17.out.2, ← HW17.out.1]
      clear HW17
      have uv : W17.cell? ⟨U, 2, none⟩ = some (.int .i64 0) := HU17.out.t.2.2.1
      have fu := HU17.out.f 2
      have HU18 := Lib.hid (HU17.out.s2 1)
      have HK18 := Lib.hid (HK17.out.sn HXU.out 2 (.int .i64 1))
      have HY18 := Lib.hid (HY17.out.sn HYU.out 2 (.int .i64 1))
      clear HU17 HK17 HY17
      go_upto_region 18 with fail
      generalize W17.setCell ⟨U, 2, none⟩ (.int .i64 1) = W18 at *
      clear uv fu
      have HT := Lib.hid (show Trms W18 (.slice (some ⟨U, 0, none⟩) 1 1) [unkT 2] from one_trms HU18.out.t HU18.out.sz)
      clear HU18
      go_wp2_with fail
      refine (iPutPoly p 2 f _ L [unkT 2] W18 (HK18.out.g (by simp)) HT.out).mono ?_
      rw [HF.out.sb]
      rintro e w19 ⟨sv, rfl, ho, hb⟩
      rw [HF.out.sv] at ho
      have HK19 := Lib.hid (HK18.out.on hb)
      have HY19 := Lib.hid (HY18.out.on hb)
      have HS := Lib.hid ho.trms
      clear ho hb HK18 HY18 HT
      have HI1 := Lib.hid (fun w' (hb : Below w19.heap.size w19 w') => iEvalPoly p x y z hv S w' ((HK19.out.on hb).g (by simp)))
      have HI2 := Lib.hid (fun w' (hb : Below w19.heap.size w19 w') => iEvalPoly p x y ev f L w' ((HK19.out.on hb).g (by simp)))
      have HP1 := Lib.hid (fun w' (hb : Below w19.heap.size w19 w') => (HK19.out.on hb).pt)
      have HP2 := Lib.hid (fun w' (hb : Below w19.heap.size w19 w') => HY19.out.on hb)
      have HA := Lib.hid (fun w' (hb : Below w19.heap.size w19 w') => acP sv f L w' (HS.out.below hb) ((HK19.out.on hb).g (by simp)))
      have HEq := Lib.hid HEV.out.2
      generalize evV p x y z S = es at *
      generalize evV p x y ev L = el at *
      go_upto_region 19 with fail
      refine wp_region_below (by kernel_rfl) (by kernel_rfl) ?_
      iterate 2 (with_reducible refine wpQuiet_yes ?_ ?_; (focus (kernel_rfl)); intro K hK; go_simp; refine ⟨_, fun _ _ => rfl, ?_⟩; with_reducible refine hK _ ?_; clear hK K)
      (with_reducible refine wpQuiet_yes ?_ ?_; (focus (kernel_rfl)); intro K hK; go_simp; refine ⟨(.agg #[.int .i64 x, .int .i64 y, .int .i64 z]), ?_, ?_⟩; rotate_left; with_reducible refine hK _ ?_; clear hK K; rotate_left)
      · intro w' hw
        obtain ⟨c0, c1, c2, _, _⟩ := HP1.out w' hw
        simp only [c0, c1, c2, go_sem, Result.andThen, and_self]
      (with_reducible refine wpQuiet_yes ?_ ?_; (focus (kernel_rfl)); intro K hK; go_simp; refine ⟨(.int .i64 es), ?_, ?_⟩; rotate_left; with_reducible refine hK _ ?_; clear hK K; rotate_left)
      · intro w' hw
        exact (HI1.out w' hw).mono fun e w'' ⟨he, h⟩ => ⟨he, hw.trans (h.mono hw.size)⟩
      iterate 2 (with_reducible refine wpQuiet_yes ?_ ?_; (focus (kernel_rfl)); intro K hK; go_simp; refine ⟨_, fun _ _ => rfl, ?_⟩; with_reducible refine hK _ ?_; clear hK K)
      (with_reducible refine wpQuiet_yes ?_ ?_; (focus (kernel_rfl)); intro K hK; go_simp; refine ⟨(.agg #[.int .i64 x, .int .i64 y, .int .i64 ev]), ?_, ?_⟩; rotate_left; with_reducible refine hK _ ?_; clear hK K; rotate_left)
      · intro w' hw
        obtain ⟨c0, c1, c2, _, _⟩ := HP2.out w' hw
        simp only [c0, c1, c2, go_sem, Result.andThen, and_self]
      (with_reducible refine wpQuiet_yes ?_ ?_; (focus (kernel_rfl)); intro K hK; go_simp; refine ⟨(.int .i64 es), ?_, ?_⟩; rotate_left; with_reducible refine hK _ ?_; clear hK K; rotate_left)
      · intro w' hw
        rw [HEq.out]
        exact (HI2.out w' hw).mono fun e w'' ⟨he, h⟩ => ⟨he, hw.trans (h.mono hw.size)⟩
      (with_reducible refine wpQuiet_yes ?_ ?_; (focus (kernel_rfl)); intro K hK; go_simp; refine ⟨(.bool true), ?_, ?_⟩; rotate_left; with_reducible refine hK _ ?_; clear hK K; rotate_left)
      · intro w' hw
        simp
      iterate 6 (with_reducible refine wpQuiet_yes ?_ ?_; (focus (kernel_rfl)); intro K hK; go_simp; refine ⟨_, fun _ _ => rfl, ?_⟩; with_reducible refine hK _ ?_; clear hK K)
      (with_reducible refine wpQuiet_yes ?_ ?_; (focus (kernel_rfl)); intro K hK; go_simp; refine ⟨(.bool true), ?_, ?_⟩; rotate_left; with_reducible refine hK _ ?_; clear hK K; rotate_left)
      · intro w' hw
        exact (HA.out w' hw).mono fun e w'' ⟨he, h⟩ => ⟨he, hw.trans (h.mono hw.size)⟩
      (with_reducible refine wpQuiet_yes ?_ ?_; (focus (kernel_rfl)); intro K hK; go_simp; refine ⟨_, fun _ _ => rfl, ?_⟩; with_reducible refine hK _ ?_; clear hK K)
      (with_reducible refine wpQuiet_yes ?_ ?_; (focus (kernel_rfl)); intro K hK; go_simp; refine ⟨_, fun _ _ => rfl, ?_⟩; with_reducible refine hK _ ?_; clear hK K)
      refine wpQuiet_nil fun w2 hb2 => ?_
      have HQ := Lib.hid ((HK19.out.on hb2).low)
      clear hb2
      simp only [Exit.then]
      go_wp2_with fail
      go_ret
      exact ⟨rfl, HQ.out⟩
theorem wPutPoly (a : Option Addr) (len cap : Nat) (w : World) (h : ByteRow w a len cap) :
    Calls Try.prog 8 #[.slice a len cap] w fun e w' => e = .returned (.bool true) ∧ Below w.heap.size w w' := by
  by_cases hl : len ≤ 1048576
  · exact wPutPoly_in a len cap w h hl
  · have hp : (1048576 : Int) < (len : Int) := by omega
    have h1 := Nat.le_trans h.1 h.2.1
    clear h
    go_enter Try.func8, Try.ntmps8
    go_wp2_with fail
    go_ret
    exact ⟨rfl, Below.refl _ _⟩
end Go.Proofs.Ytegkcfinklcglaa
