/-
  PartsAt of the model. Conditions: none but that the slice reads as a list of gates.
-/
import Derived.Test.YtlidplmpglpkgaaBe14
import Derived.Test.YtlidplmpglpkgaaBa4
namespace Go.Proofs.Ytlidplmpglpkgaa
open Go.RowKit
set_option maxRecDepth 100000 in
set_option maxHeartbeats 4000000 in
theorem sPa_not (p kk x y z : Int) (f : Value) (L : List Gt) (w : World) (h : Gats w f L) (hn : ((circB p L && inB kk 0 9) && isE3 p x y z) = false) :
    Calls Try.prog 63 #[.int .i64 p, f, .int .i64 kk, .agg #[.int .i64 x, .int .i64 y, .int .i64 z]] w fun e w' => ∃ u, e = .returned u ∧ OwnInts w' w.heap.size u [] ∧ Below w.heap.size w w' := by
  obtain ⟨W, hW⟩ : ∃ W, W = w.alloc (Obj.cells #[.int .i64 x, .int .i64 y, .int .i64 z] 33) := ⟨_, rfl⟩
  have hPt : PtAt W w.heap.size x y z := by rw [hW]; refine ⟨?_, ?_, ?_⟩ <;> simp [go_sem]
  have B0 : Below w.heap.size w W := by rw [hW]; exact Below.alloc (Below.refl _ _) (Nat.le_refl _) _
  have hsW : w.heap.size < W.heap.size := by rw [hW]; simp
  have HCV := Lib.hid (sCircuitValid p f L W (h.below B0))
  have HB0 := Lib.hid B0
  have HPT := Lib.hid hPt
  have HW := Lib.hid hW
  clear hW B0 hPt
  obtain ⟨_, a, cap, rfl, _⟩ := h
  cases hv : circB p L
  · rw [hv] at HCV
    clear hv hn
    go_enter Try.func63, Try.ntmps63
    go_wp2_with fail
    rw [← HW.out]
    refine HCV.out.mono ?_
    rintro e w1 ⟨rfl, hb⟩
    have B1 := HB0.out.trans (hb.mono HB0.out.size)
    clear hb
    go_wp2_with fail
    go_ret
    exact ⟨_, rfl, (RowI.lit0 w1 w.heap.size B1.size).own (by simp), Below.alloc B1 B1.size _⟩
  · rw [hv] at HCV hn
    have HP := Lib.hid (circB_iff.1 hv).1
    rw [Bool.true_and] at hn
    clear hv
    cases hi : inB kk 0 9
    · have HU := Lib.hid (fun w => sIn_at false kk 0 9 hi w)
      clear hn hi
      go_enter Try.func63, Try.ntmps63
      go_wp2_with fail
      rw [← HW.out]
      refine HCV.out.mono ?_
      rintro e w1 ⟨rfl, hb⟩
      have B1 := HB0.out.trans (hb.mono HB0.out.size)
      clear hb
      go_wp2_with fail
      refine (HU.out _).mono ?_
      rintro e w2 ⟨rfl, rfl⟩
      go_wp2_with fail
      go_ret
      exact ⟨_, rfl, (RowI.lit0 w1 w.heap.size B1.size).own (by simp), Below.alloc B1 B1.size _⟩
    · have HU := Lib.hid (fun w => sIn_at true kk 0 9 hi w)
      rw [hi, Bool.true_and] at hn
      have HE := Lib.hid hn
      clear hn hi
      go_enter Try.func63, Try.ntmps63
      go_wp2_with fail
      rw [← HW.out]
      refine HCV.out.mono ?_
      rintro e w1 ⟨rfl, hb⟩
      have B1 := HB0.out.trans (hb.mono HB0.out.size)
      have HP1 := Lib.hid (HPT.out.below hb hsW)
      clear hb
      go_wp2_with fail
      refine (HU.out _).mono ?_
      rintro e w2 ⟨rfl, rfl⟩
      obtain ⟨q0, q1, q2⟩ := HP1.out
      go_wp2_with fail
      refine (sEl3 false p x y z HP.out HE.out _ _ HP1.out).mono ?_
      rintro e w2 ⟨rfl, rfl⟩
      go_wp2_with fail
      go_ret
      exact ⟨_, rfl, (RowI.lit0 w1 w.heap.size B1.size).own (by simp), Below.alloc B1 B1.size _⟩
set_option maxRecDepth 100000 in
set_option maxHeartbeats 16000000 in
theorem sPa_yes (p x y z : Int) (k : Nat) (f : Value) (L : List Gt) (w : World) (h : Gats w f L) (hv : circB p L = true) (hk : k ≤ 9) (he : isE3 p x y z = true) (R : List Int) (hR : R = paL p x y z k L) :
    Calls Try.prog 63 #[.int .i64 p, f, .int .i64 (k : Int), .agg #[.int .i64 x, .int .i64 y, .int .i64 z]] w fun e w' => ∃ u, e = .returned u ∧ OwnInts w' w.heap.size u R ∧ Below w.heap.size w w' := by
  obtain ⟨i0, hi, hz0, hz1, hz2⟩ := info_parts infoInt
  obtain ⟨is, his, hs0, hs1, hs2⟩ := info_parts infoSI
  have hib : inB (k : Int) 0 9 = true := by simp [inB]; omega
  obtain ⟨W, hW⟩ : ∃ W, W = w.alloc (Obj.cells #[.int .i64 x, .int .i64 y, .int .i64 z] 33) := ⟨_, rfl⟩
  have hPt : PtAt W w.heap.size x y z := by rw [hW]; refine ⟨?_, ?_, ?_⟩ <;> simp [go_sem]
  have B0 : Below w.heap.size w W := by rw [hW]; exact Below.alloc (Below.refl _ _) (Nat.le_refl _) _
  have hsW : w.heap.size < W.heap.size := by rw [hW]; simp
  have HCV := Lib.hid (show Calls Try.prog 124 #[.int .i64 p, f] W fun e w' => e = .returned (.bool true) ∧ Below W.heap.size W w' by have := sCircuitValid p f L W (h.below B0); rwa [hv] at this)
  have HU := Lib.hid (fun w => sIn_at true (k : Int) 0 9 hib w)
  obtain ⟨hp, hl1, hl2, hall⟩ := circB_iff.1 hv
  obtain ⟨p0, p1⟩ := isP_bd hp
  have HALL := Lib.hid hall
  have HBD := Lib.hid (dvC_bd hp he (k := k) hall)
  have HFB := Lib.hid (fun j (hj : j < L.length) A d => dvF_bd (x := x) (y := y) (z := z) hp he (hall j hj) A d)
  obtain ⟨g, off, cap, rfl, hg, hc⟩ := gats_circ h hv
  have HC := Lib.hid hc
  have HRE := Lib.hid hR
  have HPE := Lib.hid (And.intro hp he)
  obtain ⟨q, hq⟩ : ∃ q, L.length = q + 1 := ⟨L.length - 1, by omega⟩
  have hwq : IntKind.i64.wrap ((L.length : Int) - 1) = (q : Int) := by rw [IntWalk.i64_in _ (by omega)]; omega
  have hq0 : (0 : Int) ≤ (q : Int) := by omega
  have hk0 : (0 : Int) ≤ (k : Int) := by omega
  have hk9 : (k : Int) ≤ 9 := by omega
  have hkw : IntKind.i64.wrap ((k : Int) + 1) = (k : Int) + 1 := IntWalk.i64_in _ (by omega)
  have hpn : ¬ p = 0 := by omega
  have hpb : (p == 0) = false := by simp; omega
  have HB0 := Lib.hid B0
  have HPT := Lib.hid hPt
  have HW := Lib.hid hW
  have HQ := Lib.hid hq
  clear h hv hib hc hR hall hp hq hW B0 hPt he
  go_enter Try.func63, Try.ntmps63
  go_wp2_with fail
  rw [← HW.out]
  refine HCV.out.mono ?_
  rintro e w1 ⟨rfl, hb⟩
  have HB1 := Lib.hid (HB0.out.trans (hb.mono HB0.out.size))
  have HP1 := Lib.hid (HPT.out.below hb hsW)
  have hsw1 : w.heap.size < w1.heap.size := by have := hb.size; omega
  clear hb
  go_wp2_with fail
  refine (HU.out _).mono ?_
  rintro e w2 ⟨rfl, rfl⟩
  obtain ⟨q0, q1, q2⟩ := HP1.out
  go_wp2_with fail
  refine (sEl3 true p x y z HPE.out.1 HPE.out.2 _ _ HP1.out).mono ?_
  rintro e w2 ⟨rfl, rfl⟩
  clear q0 q1 q2
  go_wp2_with fail
  have HD0 := Lib.hid (show DvS (w1.alloc (Obj.cells #[] 61)) (w.heap.size + 1) (w1.alloc (Obj.cells #[] 61)).heap.size (.slice (some ⟨w1.heap.size, 0, none⟩) 0 0) k (dvC p x y z k L 0) [] ∧ PtAt (w1.alloc (Obj.cells #[] 61)) w.heap.size x y z ∧ Below w.heap.size w (w1.alloc (Obj.cells #[] 61)) ∧ w.heap.size < (w1.alloc (Obj.cells #[] 61)).heap.size from
    ⟨⟨World.ownsRow_lit (size := 1) w1 #[] 0 (by omega) (by unfold maxLen; omega) rfl, rfl, fun b hq => by (have hq : w1.heap.size = b := by simpa [Value.ownBlock] using hq); subst hq; simp, Nat.le_refl _, fun i hi => absurd hi (Nat.not_lt_zero i)⟩, HP1.out.below (Below.alloc (Below.refl w1.heap.size w1) (Nat.le_refl _) _) hsw1, Below.alloc HB1.out HB1.out.size _, by simp; omega⟩)
  go_loopw [9, 35] (fun v i wr => ∃ (j : Nat) (V : List Value), j ≤ L.length ∧ i = .int .i64 j ∧ DvS wr (w.heap.size + 1) wr.heap.size v k (dvC p x y z k L j) V ∧ PtAt wr w.heap.size x y z ∧ Below w.heap.size w wr ∧ w.heap.size < wr.heap.size) (fun _ i _ => L.length - (intOf i).toNat)
  case atStart => exact ⟨0, [], by omega, rfl, HD0.out.1, HD0.out.2.1, HD0.out.2.2.1, HD0.out.2.2.2⟩
  case round =>
    clear HD0
    obtain ⟨j, V, hj, rfl, hD, hP, hb, hsz⟩ := hrel
    have hj0 : (0 : Int) ≤ (j : Int) := by omega
    by_cases hlt : j < L.length
    · have hltp : (j : Int) < (L.length : Int) := by omega
      obtain ⟨a0, a1, a2⟩ := (HC.out j hlt).below hb hg
      have hx0 := HALL.out j hlt
      obtain ⟨x', hx⟩ : ∃ x, x = L.getD j default := ⟨_, rfl⟩
      rw [← hx] at a0 a1 a2
      have hxg : gAt L j = x' := hx.symm
      rw [hxg] at hx0
      have hcs := gOK_cases hx0
      have HGA := Lib.hid hxg
      have hdl := dvC_len p x y z k L j
      have HBJ := Lib.hid (HBD.out j hj)
      have HFJ := Lib.hid (fun d => show 0 ≤ dvF p x y z (dvC p x y z k L j) x' d ∧ dvF p x y z (dvC p x y z k L j) x' d < p by rw [← hxg]; exact HFB.out j hlt _ d)
      obtain ⟨rl, hrl⟩ : ∃ rl, rl = dvR p x y z k L j := ⟨_, rfl⟩
      have hrll : rl.length = k + 1 := by rw [hrl]; exact dvR_len
      have HRA := Lib.hid (fun d (hd : d ≤ k) => show rl.getD d 0 = dvF p x y z (dvC p x y z k L j) x' d by rw [hrl, dvR_at hd, hxg])
      have HRM := Lib.hid (show rl = (List.range (k + 1)).map (dvF p x y z (dvC p x y z k L j) x') by rw [hrl]; unfold dvR; rw [hxg])
      have HNX := Lib.hid (show dvC p x y z k L (j + 1) = dvC p x y z k L j ++ [rl] by rw [hrl]; rfl)
      obtain ⟨D, hDD⟩ : ∃ D, D = dvC p x y z k L j := ⟨_, rfl⟩
      rw [← hDD] at hD hdl HBJ HFJ HRA HRM HNX
      obtain ⟨W1, hW1⟩ : ∃ W1, W1 = wr.alloc (Obj.cells #[.int .i64 x'.k, .int .i64 x'.a, .int .i64 x'.b] 137) := ⟨_, rfl⟩
      have bW1 : Below wr.heap.size wr W1 := by rw [hW1]; exact Below.alloc (Below.refl _ _) (Nat.le_refl _) _
      have hG1 : GAt W1 wr.heap.size 0 x' := by rw [hW1]; refine ⟨?_, ?_, ?_⟩ <;> simp [go_sem]
      have hs1 : W1.heap.size = wr.heap.size + 1 := by rw [hW1]; simp
      have HD1 := Lib.hid (show DvS W1 (w.heap.size + 1) W1.heap.size u9 k D V ∧ PtAt W1 w.heap.size x y z ∧ Below w.heap.size w W1 ∧ w.heap.size < wr.heap.size ∧ Below (w.heap.size + 1) wr W1 from
        ⟨by
          have hh := hD.below bW1
          exact ⟨hh.row, hh.len, fun b hq => by have := hh.kp b hq; omega, Nat.le_refl _, fun i hi => by
            obtain ⟨h0, g, c, h1, h2, h3, h4, h5⟩ := hh.rd i hi
            exact ⟨h0, g, c, h1, h2, by omega, h4, h5⟩⟩, hP.below bW1 hsz, hb.trans (bW1.mono hb.size), hsz, bW1.mono (by omega)⟩)
      have HW1 := Lib.hid hW1
      have HG1 := Lib.hid hG1
      clear hxg hrl hDD hD hP hb hW1 bW1 hG1 hx
      go_wp2_with (at_make; rw [← HW1.out]; refine wpList_make_full _ rfl _ _ 61 rfl W1.heap.size 3 i0 (.int .i64 0) 1 Try.underlying61 hi hz0 hz1 .i64 .i64 ((k : Int) + 1) ((k : Int) + 1) (k + 1) rfl rfl (by omega) (by omega) ?c2 ?c3 ?c4 ?_)
      case c2 => rw [hz2]; omega
      case c3 => unfold maxLen; omega
      case c4 => exact Nat.le_refl _
      intro w5 hown hgr
      rw [← hs1] at hown ⊢
      obtain ⟨n, hn⟩ : ∃ n, n = wr.heap.size := ⟨_, rfl⟩
      rw [← hn] at HG1 HD1 hs1 ⊢
      have hwn : w.heap.size < n := HD1.out.2.2.2.1
      clear HW1 a0 a1 a2 hn hsz
      have hb5 : Below W1.heap.size W1 w5 := (Below.refl _ _).grown hgr (Nat.le_refl _) (fun k hk => by cases hk)
      have har : ArW w5 W1.heap.size (List.replicate (k + 1) 0) := arW_made hown
      obtain ⟨m, hm⟩ : ∃ m, m = W1.heap.size := ⟨_, rfl⟩
      have HA5 := Lib.hid (show ArW w5 m (List.replicate (k + 1) 0) by rw [hm]; exact har)
      have HZ5 := Lib.hid (show DvS w5 (w.heap.size + 1) m u9 k D V by rw [hm]; exact HD1.out.1.below hb5)
      have HP5 := Lib.hid (show PtAt w5 w.heap.size x y z from HD1.out.2.1.below hb5 (by omega))
      have HG5 := Lib.hid (show GAt w5 n 0 x' from HG1.out.below hb5 (by omega))
      have HB5 := Lib.hid (show Below w.heap.size w w5 from HD1.out.2.2.1.trans (hb5.mono HD1.out.2.2.1.size))
      have hmn : n < m := by omega
      have hm5 : m < w5.heap.size := HA5.out.lt
      rw [← hm] at ⊢
      clear hown hgr hb5 har hm HD1 HG1 hs1
      obtain ⟨xk, xa, xb⟩ := x'
      obtain ⟨b0, b1, b2⟩ := HG5.out
      simp only [Nat.zero_add] at b0 b1 b2
      simp only at hcs
      rcases hcs with ⟨rfl, h0, h1, rfl⟩ | ⟨rfl, h0, h1, rfl⟩ | ⟨hkk, h0, h1, h2, h3⟩
      · have HR0 := Lib.hid (show (List.replicate (k + 1) (0 : Int)).set 1 (coord x y z xa) = rl by
          rw [HRM.out, row1]
          simp [dvF])
        by_cases hkp : 0 < k
        · have hkp1 : (k : Int) > 0 := by omega
          have h1k : (1 : Int) < (k : Int) + 1 := by omega
          obtain ⟨c, hcd⟩ : ∃ c, c = coord x y z xa := ⟨_, rfl⟩
          rw [← hcd] at HR0
          have HA7 := Lib.hid (show ArW (w5.setCell ⟨m, 1, none⟩ (.int .i64 c)) m rl by rw [← HR0.out]; exact HA5.out.set (by simp; omega) c)
          have HB7 := Lib.hid (show Below m w5 (w5.setCell ⟨m, 1, none⟩ (.int .i64 c)) from (Below.refl m w5).setCell (Nat.le_refl _) _)
          have cc := HA5.out.c 1 (by simp; omega)
          have cf := HA5.out.f 1 (by simp; omega)
          have hxa : xa = 0 ∨ xa = 1 ∨ xa = 2 := by omega
          rcases hxa with rfl | rfl | rfl
          · have hcx : x = c := by rw [hcd]; simp [coord]
            subst hcx
            obtain ⟨q0, q1, q2⟩ := HP5.out
            clear hcd
            have HX7 := Lib.hid (show DvS (w5.setCell ⟨m, 1, none⟩ (.int .i64 x)) (w.heap.size + 1) m u9 k D V ∧ PtAt (w5.setCell ⟨m, 1, none⟩ (.int .i64 x)) w.heap.size x y z ∧ Below w.heap.size w (w5.setCell ⟨m, 1, none⟩ (.int .i64 x)) ∧ m < (w5.setCell ⟨m, 1, none⟩ (.int .i64 x)).heap.size from
              ⟨HZ5.out.below HB7.out, HP5.out.below HB7.out (by omega), HB5.out.trans (HB7.out.mono (by omega)), HA7.out.lt⟩)
            have hVL : V.length ≤ 60 := by have := HX7.out.1.len; omega
            have HRW := Lib.hid (fun o => (HX7.out.1.below (w' := (w5.setCell ⟨m, 1, none⟩ (.int .i64 x)).alloc o) ((Below.alloc (Below.refl (w5.setCell ⟨m, 1, none⟩ (.int .i64 x)).heap.size (w5.setCell ⟨m, 1, none⟩ (.int .i64 x))) (Nat.le_refl _) o).mono (by have := HX7.out.2.2.2; omega))).row)
            have hw7 : w.heap.size + 1 ≤ (w5.setCell ⟨m, 1, none⟩ (.int .i64 x)).heap.size := by have := HX7.out.2.2.2; omega
            go_wp2_with (at_builtin; refine wpList_append_lies _ rfl _ _ 170 rfl (w.heap.size + 1) 61 is (.slice none 0 0) 1 24 Try.underlying170 his hs0 hs1 hs2 rfl (by decide) _ _ _ rfl (HRW.out _) ⟨w5.heap.size, 0, none⟩ 1 1 [.slice (some ⟨m, 0, none⟩) (k + 1) (k + 1)] rfl rfl (by intro j u hj; match j, hj with | 0, hj => (simp at hj; subst hj; simp [Addr.add, go_sem])) (by intro u hu; simp at hu; subst hu; rfl) (by omega) (by unfold maxLen; omega) (by omega) (by simp; omega) _ rfl ?_)
            intro g8 c8 w8 hown8 hgrow8 hat8 hlt8
            have H8 := Lib.hid (HX7.out.1.push HA7.out hrll (by omega) (Below.alloc (Below.refl (w5.setCell ⟨m, 1, none⟩ (.int .i64 x)).heap.size (w5.setCell ⟨m, 1, none⟩ (.int .i64 x))) (Nat.le_refl _) _) hown8 hgrow8 hat8 (by simp) hlt8)
            rw [← HNX.out] at H8
            clear hown8 hgrow8 hat8 hlt8
            go_wp2_with fail
            go_roundw
            case rel => exact ⟨j + 1, _, by omega, by go_num, H8.out.1, HX7.out.2.1.below H8.out.2 (by omega), HX7.out.2.2.1.trans (H8.out.2.mono (by omega)), by have := H8.out.2.size; omega⟩
            case measure => simp [intOf]; omega
          · have hcx : y = c := by rw [hcd]; simp [coord]
            subst hcx
            obtain ⟨q0, q1, q2⟩ := HP5.out
            clear hcd
            have HX7 := Lib.hid (show DvS (w5.setCell ⟨m, 1, none⟩ (.int .i64 y)) (w.heap.size + 1) m u9 k D V ∧ PtAt (w5.setCell ⟨m, 1, none⟩ (.int .i64 y)) w.heap.size x y z ∧ Below w.heap.size w (w5.setCell ⟨m, 1, none⟩ (.int .i64 y)) ∧ m < (w5.setCell ⟨m, 1, none⟩ (.int .i64 y)).heap.size from
              ⟨HZ5.out.below HB7.out, HP5.out.below HB7.out (by omega), HB5.out.trans (HB7.out.mono (by omega)), HA7.out.lt⟩)
            have hVL : V.length ≤ 60 := by have := HX7.out.1.len; omega
            have HRW := Lib.hid (fun o => (HX7.out.1.below (w' := (w5.setCell ⟨m, 1, none⟩ (.int .i64 y)).alloc o) ((Below.alloc (Below.refl (w5.setCell ⟨m, 1, none⟩ (.int .i64 y)).heap.size (w5.setCell ⟨m, 1, none⟩ (.int .i64 y))) (Nat.le_refl _) o).mono (by have := HX7.out.2.2.2; omega))).row)
            have hw7 : w.heap.size + 1 ≤ (w5.setCell ⟨m, 1, none⟩ (.int .i64 y)).heap.size := by have := HX7.out.2.2.2; omega
            go_wp2_with (at_builtin; refine wpList_append_lies _ rfl _ _ 170 rfl (w.heap.size + 1) 61 is (.slice none 0 0) 1 24 Try.underlying170 his hs0 hs1 hs2 rfl (by decide) _ _ _ rfl (HRW.out _) ⟨w5.heap.size, 0, none⟩ 1 1 [.slice (some ⟨m, 0, none⟩) (k + 1) (k + 1)] rfl rfl (by intro j u hj; match j, hj with | 0, hj => (simp at hj; subst hj; simp [Addr.add, go_sem])) (by intro u hu; simp at hu; subst hu; rfl) (by omega) (by unfold maxLen; omega) (by omega) (by simp; omega) _ rfl ?_)
            intro g8 c8 w8 hown8 hgrow8 hat8 hlt8
            have H8 := Lib.hid (HX7.out.1.push HA7.out hrll (by omega) (Below.alloc (Below.refl (w5.setCell ⟨m, 1, none⟩ (.int .i64 y)).heap.size (w5.setCell ⟨m, 1, none⟩ (.int .i64 y))) (Nat.le_refl _) _) hown8 hgrow8 hat8 (by simp) hlt8)
            rw [← HNX.out] at H8
            clear hown8 hgrow8 hat8 hlt8
            go_wp2_with fail
            go_roundw
            case rel => exact ⟨j + 1, _, by omega, by go_num, H8.out.1, HX7.out.2.1.below H8.out.2 (by omega), HX7.out.2.2.1.trans (H8.out.2.mono (by omega)), by have := H8.out.2.size; omega⟩
            case measure => simp [intOf]; omega
          · have hcx : z = c := by rw [hcd]; simp [coord]
            subst hcx
            obtain ⟨q0, q1, q2⟩ := HP5.out
            clear hcd
            have HX7 := Lib.hid (show DvS (w5.setCell ⟨m, 1, none⟩ (.int .i64 z)) (w.heap.size + 1) m u9 k D V ∧ PtAt (w5.setCell ⟨m, 1, none⟩ (.int .i64 z)) w.heap.size x y z ∧ Below w.heap.size w (w5.setCell ⟨m, 1, none⟩ (.int .i64 z)) ∧ m < (w5.setCell ⟨m, 1, none⟩ (.int .i64 z)).heap.size from
              ⟨HZ5.out.below HB7.out, HP5.out.below HB7.out (by omega), HB5.out.trans (HB7.out.mono (by omega)), HA7.out.lt⟩)
            have hVL : V.length ≤ 60 := by have := HX7.out.1.len; omega
            have HRW := Lib.hid (fun o => (HX7.out.1.below (w' := (w5.setCell ⟨m, 1, none⟩ (.int .i64 z)).alloc o) ((Below.alloc (Below.refl (w5.setCell ⟨m, 1, none⟩ (.int .i64 z)).heap.size (w5.setCell ⟨m, 1, none⟩ (.int .i64 z))) (Nat.le_refl _) o).mono (by have := HX7.out.2.2.2; omega))).row)
            have hw7 : w.heap.size + 1 ≤ (w5.setCell ⟨m, 1, none⟩ (.int .i64 z)).heap.size := by have := HX7.out.2.2.2; omega
            go_wp2_with (at_builtin; refine wpList_append_lies _ rfl _ _ 170 rfl (w.heap.size + 1) 61 is (.slice none 0 0) 1 24 Try.underlying170 his hs0 hs1 hs2 rfl (by decide) _ _ _ rfl (HRW.out _) ⟨w5.heap.size, 0, none⟩ 1 1 [.slice (some ⟨m, 0, none⟩) (k + 1) (k + 1)] rfl rfl (by intro j u hj; match j, hj with | 0, hj => (simp at hj; subst hj; simp [Addr.add, go_sem])) (by intro u hu; simp at hu; subst hu; rfl) (by omega) (by unfold maxLen; omega) (by omega) (by simp; omega) _ rfl ?_)
            intro g8 c8 w8 hown8 hgrow8 hat8 hlt8
            have H8 := Lib.hid (HX7.out.1.push HA7.out hrll (by omega) (Below.alloc (Below.refl (w5.setCell ⟨m, 1, none⟩ (.int .i64 z)).heap.size (w5.setCell ⟨m, 1, none⟩ (.int .i64 z))) (Nat.le_refl _) _) hown8 hgrow8 hat8 (by simp) hlt8)
            rw [← HNX.out] at H8
            clear hown8 hgrow8 hat8 hlt8
            go_wp2_with fail
            go_roundw
            case rel => exact ⟨j + 1, _, by omega, by go_num, H8.out.1, HX7.out.2.1.below H8.out.2 (by omega), HX7.out.2.2.1.trans (H8.out.2.mono (by omega)), by have := H8.out.2.size; omega⟩
            case measure => simp [intOf]; omega
        · have hkz : k = 0 := by omega
          have hkn : ¬ (k : Int) > 0 := by omega
          have HA7 := Lib.hid (show ArW w5 m rl by
            have hh := HA5.out
            rw [← HR0.out]
            rw [hkz] at hh ⊢
            simpa using hh)
          clear hkz
          have HB7 := Lib.hid (Below.refl m w5)
          have HX7 := Lib.hid (show DvS w5 (w.heap.size + 1) m u9 k D V ∧ PtAt w5 w.heap.size x y z ∧ Below w.heap.size w w5 ∧ m < w5.heap.size from
            ⟨HZ5.out.below HB7.out, HP5.out.below HB7.out (by omega), HB5.out.trans (HB7.out.mono (by omega)), HA7.out.lt⟩)
          have hVL : V.length ≤ 60 := by have := HX7.out.1.len; omega
          have HRW := Lib.hid (fun o => (HX7.out.1.below (w' := w5.alloc o) ((Below.alloc (Below.refl w5.heap.size w5) (Nat.le_refl _) o).mono (by have := HX7.out.2.2.2; omega))).row)
          have hw7 : w.heap.size + 1 ≤ w5.heap.size := by have := HX7.out.2.2.2; omega
          go_wp2_with (at_builtin; refine wpList_append_lies _ rfl _ _ 170 rfl (w.heap.size + 1) 61 is (.slice none 0 0) 1 24 Try.underlying170 his hs0 hs1 hs2 rfl (by decide) _ _ _ rfl (HRW.out _) ⟨w5.heap.size, 0, none⟩ 1 1 [.slice (some ⟨m, 0, none⟩) (k + 1) (k + 1)] rfl rfl (by intro j u hj; match j, hj with | 0, hj => (simp at hj; subst hj; simp [Addr.add, go_sem])) (by intro u hu; simp at hu; subst hu; rfl) (by omega) (by unfold maxLen; omega) (by omega) (by simp; omega) _ rfl ?_)
          intro g8 c8 w8 hown8 hgrow8 hat8 hlt8
          have H8 := Lib.hid (HX7.out.1.push HA7.out hrll (by omega) (Below.alloc (Below.refl w5.heap.size w5) (Nat.le_refl _) _) hown8 hgrow8 hat8 (by simp) hlt8)
          rw [← HNX.out] at H8
          clear hown8 hgrow8 hat8 hlt8
          go_wp2_with fail
          go_roundw
          case rel => exact ⟨j + 1, _, by omega, by go_num, H8.out.1, HX7.out.2.1.below H8.out.2 (by omega), HX7.out.2.2.1.trans (H8.out.2.mono (by omega)), by have := H8.out.2.size; omega⟩
          case measure => simp [intOf]; omega
      · have HR0 := Lib.hid (show (List.replicate (k + 1) (0 : Int)).set 0 xa = rl by
          rw [HRM.out, row1]
          simp [dvF])
        have HA7 := Lib.hid (show ArW (w5.setCell ⟨m, 0, none⟩ (.int .i64 xa)) m rl by rw [← HR0.out]; exact HA5.out.set (by simp) xa)
        have HB7 := Lib.hid (show Below m w5 (w5.setCell ⟨m, 0, none⟩ (.int .i64 xa)) from (Below.refl m w5).setCell (Nat.le_refl _) _)
        have cc := HA5.out.c 0 (by simp)
        have cf := HA5.out.f 0 (by simp)
        have h0k : (0 : Int) < (k : Int) + 1 := by omega
        have HX7 := Lib.hid (show DvS (w5.setCell ⟨m, 0, none⟩ (.int .i64 xa)) (w.heap.size + 1) m u9 k D V ∧ PtAt (w5.setCell ⟨m, 0, none⟩ (.int .i64 xa)) w.heap.size x y z ∧ Below w.heap.size w (w5.setCell ⟨m, 0, none⟩ (.int .i64 xa)) ∧ m < (w5.setCell ⟨m, 0, none⟩ (.int .i64 xa)).heap.size from
          ⟨HZ5.out.below HB7.out, HP5.out.below HB7.out (by omega), HB5.out.trans (HB7.out.mono (by omega)), HA7.out.lt⟩)
        have hVL : V.length ≤ 60 := by have := HX7.out.1.len; omega
        have HRW := Lib.hid (fun o => (HX7.out.1.below (w' := (w5.setCell ⟨m, 0, none⟩ (.int .i64 xa)).alloc o) ((Below.alloc (Below.refl (w5.setCell ⟨m, 0, none⟩ (.int .i64 xa)).heap.size (w5.setCell ⟨m, 0, none⟩ (.int .i64 xa))) (Nat.le_refl _) o).mono (by have := HX7.out.2.2.2; omega))).row)
        have hw7 : w.heap.size + 1 ≤ (w5.setCell ⟨m, 0, none⟩ (.int .i64 xa)).heap.size := by have := HX7.out.2.2.2; omega
        go_wp2_with (at_builtin; refine wpList_append_lies _ rfl _ _ 170 rfl (w.heap.size + 1) 61 is (.slice none 0 0) 1 24 Try.underlying170 his hs0 hs1 hs2 rfl (by decide) _ _ _ rfl (HRW.out _) ⟨w5.heap.size, 0, none⟩ 1 1 [.slice (some ⟨m, 0, none⟩) (k + 1) (k + 1)] rfl rfl (by intro j u hj; match j, hj with | 0, hj => (simp at hj; subst hj; simp [Addr.add, go_sem])) (by intro u hu; simp at hu; subst hu; rfl) (by omega) (by unfold maxLen; omega) (by omega) (by simp; omega) _ rfl ?_)
        intro g8 c8 w8 hown8 hgrow8 hat8 hlt8
        have H8 := Lib.hid (HX7.out.1.push HA7.out hrll (by omega) (Below.alloc (Below.refl (w5.setCell ⟨m, 0, none⟩ (.int .i64 xa)).heap.size (w5.setCell ⟨m, 0, none⟩ (.int .i64 xa))) (Nat.le_refl _) _) hown8 hgrow8 hat8 (by simp) hlt8)
        rw [← HNX.out] at H8
        clear hown8 hgrow8 hat8 hlt8
        go_wp2_with fail
        go_roundw
        case rel => exact ⟨j + 1, _, by omega, by go_num, H8.out.1, HX7.out.2.1.below H8.out.2 (by omega), HX7.out.2.2.1.trans (H8.out.2.mono (by omega)), by have := H8.out.2.size; omega⟩
        case measure => simp [intOf]; omega
      · obtain ⟨A, rfl⟩ := Int.eq_ofNat_of_zero_le h0
        obtain ⟨E, rfl⟩ := Int.eq_ofNat_of_zero_le h2
        have hA : A < D.length := by omega
        have hE : E < D.length := by omega
        obtain ⟨pg, pc, rfl, hpgB, hpgl⟩ := World.ownsRow.form HZ5.out.row (by have := HZ5.out.len; omega)
        obtain ⟨ga, ca, ea, ha1, ha2, ra, ha3, ha4⟩ := HZ5.out.at hA rfl
        obtain ⟨gb, cb, eb, hb1, hb2, rb, hb3, hb4⟩ := HZ5.out.at hE rfl
        have hpgm : pg < m := HZ5.out.kp pg rfl
        have hVl : V.length = j := by rw [HZ5.out.len]; exact hdl
        have hAi : (A : Int) < (V.length : Int) := by omega
        have hEi : (E : Int) < (V.length : Int) := by omega
        have hA0 : (0 : Int) ≤ (A : Int) := by omega
        have hE0 : (0 : Int) ≤ (E : Int) := by omega
        have HBA := Lib.hid (HBJ.out A (by omega))
        have HBE := Lib.hid (HBJ.out E (by omega))
        have HFX := Lib.hid (fun w' (h : Below m w5 w') => show (w'.cell? ⟨n, 1, none⟩ = some (.int .i64 (A : Int)) ∧ w'.cell? ⟨n, 2, none⟩ = some (.int .i64 (E : Int)) ∧ w'.cell? ⟨pg, A, none⟩ = some (.slice (some ⟨ga, 0, none⟩) (k + 1) ca) ∧ w'.cell? ⟨pg, E, none⟩ = some (.slice (some ⟨gb, 0, none⟩) (k + 1) cb)) ∧ (∀ d, d ≤ k → w'.cell? ⟨ga, d, none⟩ = some (.int .i64 (pcl D A d))) ∧ ∀ d, d ≤ k → w'.cell? ⟨gb, d, none⟩ = some (.int .i64 (pcl D E d)) from
          ⟨⟨by rw [h.cell (p := ⟨n, 1, none⟩) (by show n < m; omega)]; exact b1, by rw [h.cell (p := ⟨n, 2, none⟩) (by show n < m; omega)]; exact b2, by rw [h.cell (p := ⟨pg, A, none⟩) hpgm]; exact ea, by rw [h.cell (p := ⟨pg, E, none⟩) hpgm]; exact eb⟩,
            fun d hd => by rw [h.cell (p := ⟨ga, d, none⟩) ha2]; exact ra d hd, fun d hd => by rw [h.cell (p := ⟨gb, d, none⟩) hb2]; exact rb d hd⟩)
        have HAS := Lib.hid (show ArW w5 m (resL rl 0) by rw [resL_zero, hrll]; exact HA5.out)
        clear hVl ea eb ra rb ha1 ha2 ha3 ha4 hb1 hb2 hb3 hb4 b1 b2
        rcases hkk with rfl | rfl
        · clear HA5
          go_wp2_with fail
          go_loopw [64] (fun i wr => ∃ d : Nat, d ≤ k + 1 ∧ i = .int .i64 d ∧ ArW wr m (resL rl d) ∧ Below m w5 wr) (fun i _ => k + 1 - (intOf i).toNat)
          case atStart => exact ⟨0, by omega, rfl, HAS.out, Below.refl _ _⟩
          case round =>
            clear HAS
            obtain ⟨d, hd, rfl, har, hbm⟩ := hrel
            have hd0 : (0 : Int) ≤ (d : Int) := by omega
            by_cases hdl : d < k + 1
            · have hdp : (d : Int) < (k : Int) + 1 := by omega
              have hdp2 : (d : Int) < ((k + 1 : Nat) : Int) := by omega
              obtain ⟨da, hda⟩ : ∃ a, a = pcl D A d := ⟨_, rfl⟩
              obtain ⟨db, hdb⟩ : ∃ a, a = pcl D E d := ⟨_, rfl⟩
              obtain ⟨e1, e2⟩ := HBA.out d (by omega)
              obtain ⟨e3, e4⟩ := HBE.out d (by omega)
              rw [← hda] at e1 e2
              rw [← hdb] at e3 e4
              obtain ⟨s, hs⟩ : ∃ s, (da + db) % p = s := ⟨_, rfl⟩
              have hs0' : 0 ≤ s ∧ s < p := by rw [← hs]; exact emB p0
              have hw1 : IntKind.i64.wrap (da + db) = da + db := IntWalk.i64_in _ (by omega)
              have htm : (da + db).tmod p = s := by rw [Int.tmod_eq_emod_of_nonneg (by omega)]; exact hs
              have hwm : IntKind.i64.wrap s = s := IntWalk.i64_in _ (by omega)
              have hval : s = rl.getD d 0 := by
                rw [HRA.out d (by omega), ← hs, hda, hdb]
                rfl
              have HFR := Lib.hid (fun w' (h : Below m w5 w') => show w'.cell? ⟨n, 1, none⟩ = some (.int .i64 (A : Int)) ∧ w'.cell? ⟨n, 2, none⟩ = some (.int .i64 (E : Int)) ∧ w'.cell? ⟨pg, A, none⟩ = some (.slice (some ⟨ga, 0, none⟩) (k + 1) ca) ∧ w'.cell? ⟨pg, E, none⟩ = some (.slice (some ⟨gb, 0, none⟩) (k + 1) cb) ∧ w'.cell? ⟨ga, d, none⟩ = some (.int .i64 da) ∧ w'.cell? ⟨gb, d, none⟩ = some (.int .i64 db) by
                obtain ⟨⟨t1, t2, t3, t4⟩, t5, t6⟩ := HFX.out w' h
                exact ⟨t1, t2, t3, t4, by rw [hda]; exact t5 d (by omega), by rw [hdb]; exact t6 d (by omega)⟩)
              have HA2 := Lib.hid (show ArW (wr.drew.setCell ⟨m, d, none⟩ (.int .i64 s)) m (resL rl (d + 1)) by
                rw [← resL_set (by omega), ← hval]
                exact (har.below (Below.drew (Below.refl _ _))).set (by rw [resL_len (by omega)]; omega) s)
              have bdr : Below m w5 wr.drew := Below.drew hbm
              have HB2 := Lib.hid (show Below m w5 (wr.drew.setCell ⟨m, d, none⟩ (.int .i64 s)) from bdr.setCell (Nat.le_refl _) _)
              have hwd : Below wr.heap.size wr wr.drew := Below.drew (Below.refl _ _)
              have cc := (har.below hwd).c d (by rw [resL_len (by omega)]; omega)
              have cf := (har.below hwd).f d (by rw [resL_len (by omega)]; omega)
              have HCF := Lib.hid (And.intro cc cf)
              have HBDR := Lib.hid bdr
              clear har hbm hda hdb hs hval bdr hwd cc cf
              go_wp2_with fail
              refine wp_region_seq [(0, true), (1, true), (2, true), (3, true), (4, true), (5, true), (6, true), (7, true), (8, true), (9, true), (10, true), (11, true), (12, true), (13, true), (14, true), (15, true), (16, true), (17, true), (18, true), (19, true), (20, true), (21, true)] (fun w' => w'.cell? ⟨n, 1, none⟩ = some (.int .i64 (A : Int)) ∧ w'.cell? ⟨n, 2, none⟩ = some (.int .i64 (E : Int)) ∧ w'.cell? ⟨pg, A, none⟩ = some (.slice (some ⟨ga, 0, none⟩) (k + 1) ca) ∧ w'.cell? ⟨pg, E, none⟩ = some (.slice (some ⟨gb, 0, none⟩) (k + 1) cb) ∧ w'.cell? ⟨ga, d, none⟩ = some (.int .i64 da) ∧ w'.cell? ⟨gb, d, none⟩ = some (.int .i64 db)) (by kernel_rfl) (by kernel_rfl) rfl (by intro c a d v w h; cases d <;> exact h) (HFR.out _ HBDR.out) ?_
              iterate 22 (refine wpSeq_take (v := ?_) (List.getElem?_toArray.trans rfl) ?_ ?_; rotate_left; (intro w' hSw; (try dsimp only at hSw); go_simp; (try with_reducible rfl)); (try simp only [Act.put, List.setIfInBounds_toArray, List.set_cons_zero, List.set_cons_succ]))
              refine wpSeq_nil ?_
              simp only [Exit.then]
              obtain ⟨wd, hwde⟩ : ∃ u, u = wr.drew := ⟨_, rfl⟩
              rw [← hwde] at HCF HA2 HB2 ⊢
              obtain ⟨cc, cf⟩ := HCF.out
              clear hwde HBDR HFR
              go_wp2_with fail
              go_roundw
              case rel => exact ⟨d + 1, by omega, by go_num, HA2.out, HB2.out⟩
              case measure => simp [intOf]; omega
            · have hdk : d = rl.length := by omega
              subst hdk
              rw [resL_end] at har
              have HA7 := Lib.hid har
              have HB7 := Lib.hid hbm
              have hge : ¬ (rl.length : Int) < (k : Int) + 1 := by omega
              have hge2 : ¬ (rl.length : Int) < ((k + 1 : Nat) : Int) := by omega
              clear har hbm
              have HX7 := Lib.hid (show DvS wr (w.heap.size + 1) m (.slice (some ⟨pg, 0, none⟩) V.length pc) k D V ∧ PtAt wr w.heap.size x y z ∧ Below w.heap.size w wr ∧ m < wr.heap.size from
                ⟨HZ5.out.below HB7.out, HP5.out.below HB7.out (by omega), HB5.out.trans (HB7.out.mono (by omega)), HA7.out.lt⟩)
              have hVL : V.length ≤ 60 := by have := HX7.out.1.len; omega
              have HRW := Lib.hid (fun o => (HX7.out.1.below (w' := wr.alloc o) ((Below.alloc (Below.refl wr.heap.size wr) (Nat.le_refl _) o).mono (by have := HX7.out.2.2.2; omega))).row)
              have hw7 : w.heap.size + 1 ≤ wr.heap.size := by have := HX7.out.2.2.2; omega
              go_wp2_with (at_builtin; refine wpList_append_lies _ rfl _ _ 170 rfl (w.heap.size + 1) 61 is (.slice none 0 0) 1 24 Try.underlying170 his hs0 hs1 hs2 rfl (by decide) _ _ _ rfl (HRW.out _) ⟨wr.heap.size, 0, none⟩ 1 1 [.slice (some ⟨m, 0, none⟩) (k + 1) (k + 1)] rfl rfl (by intro j u hj; match j, hj with | 0, hj => (simp at hj; subst hj; simp [Addr.add, go_sem])) (by intro u hu; simp at hu; subst hu; rfl) (by omega) (by unfold maxLen; omega) (by omega) (by simp; omega) _ rfl ?_)
              intro g8 c8 w8 hown8 hgrow8 hat8 hlt8
              have H8 := Lib.hid (HX7.out.1.push HA7.out hrll (by omega) (Below.alloc (Below.refl wr.heap.size wr) (Nat.le_refl _) _) hown8 hgrow8 hat8 (by simp) hlt8)
              rw [← HNX.out] at H8
              clear hown8 hgrow8 hat8 hlt8
              go_wp2_with fail
              go_roundw
              case rel => exact ⟨j + 1, _, by omega, by go_num, H8.out.1, HX7.out.2.1.below H8.out.2 (by omega), HX7.out.2.2.1.trans (H8.out.2.mono (by omega)), by have := H8.out.2.size; omega⟩
              case measure => simp [intOf]; omega
        · clear HA5
          go_wp2_with fail
          go_loopw [94] (fun i wr => ∃ d : Nat, d ≤ k + 1 ∧ i = .int .i64 d ∧ ArW wr m (resL rl d) ∧ Below m w5 wr) (fun i _ => k + 1 - (intOf i).toNat)
          case atStart => exact ⟨0, by omega, rfl, HAS.out, Below.refl _ _⟩
          case round =>
            clear HAS
            obtain ⟨d, hd, rfl, har, hbm⟩ := hrel
            have hd0 : (0 : Int) ≤ (d : Int) := by omega
            by_cases hdl : d < k + 1
            · have hdp : (d : Int) < (k : Int) + 1 := by omega
              have hdp2 : (d : Int) < ((k + 1 : Nat) : Int) := by omega
              have hdw : IntKind.i64.wrap ((d : Int) + 1) = (d : Int) + 1 := IntWalk.i64_in _ (by omega)
              have HI0 := Lib.hid (show ArW wr m ((resL rl d).set d (cvV p D A E d 0)) by
                rw [show cvV p D A E d 0 = 0 from rfl, resL_set0 (by omega)]
                exact har)
              have HI1 := Lib.hid hbm
              have HVE := Lib.hid (show cvV p D A E d (d + 1) = rl.getD d 0 by rw [HRA.out d (by omega)]; rfl)
              clear har hbm
              go_wp2_with fail
              go_loopw [99] (fun i wr => ∃ e : Nat, e ≤ d + 1 ∧ i = .int .i64 e ∧ ArW wr m ((resL rl d).set d (cvV p D A E d e)) ∧ Below m w5 wr) (fun i _ => d + 1 - (intOf i).toNat)
              case atStart => exact ⟨0, by omega, rfl, HI0.out, HI1.out⟩
              case round =>
                clear HI0 HI1
                obtain ⟨e, he, rfl, har, hbm⟩ := hrel
                have he0 : (0 : Int) ≤ (e : Int) := by omega
                have hsl : ((resL rl d).set d (cvV p D A E d e)).length = k + 1 := by rw [List.length_set, resL_len (by omega)]; exact hrll
                by_cases hel : e < d + 1
                · have hep : (e : Int) < (d : Int) + 1 := by omega
                  have hek : (e : Int) < (k : Int) + 1 := by omega
                  obtain ⟨dm, hdm⟩ : ∃ dm : Nat, dm = d - e := ⟨_, rfl⟩
                  have hdmk : (dm : Int) < (k : Int) + 1 := by omega
                  have hdm0 : (0 : Int) ≤ (dm : Int) := by omega
                  have hsub : IntKind.i64.wrap ((d : Int) - (e : Int)) = (dm : Int) := by rw [IntWalk.i64_in _ (by omega)]; omega
                  obtain ⟨da, hda⟩ : ∃ a, a = pcl D A e := ⟨_, rfl⟩
                  obtain ⟨db, hdb⟩ : ∃ a, a = pcl D E dm := ⟨_, rfl⟩
                  obtain ⟨dc, hdc⟩ : ∃ a, a = cvV p D A E d e := ⟨_, rfl⟩
                  obtain ⟨e1, e2⟩ := HBA.out e (by omega)
                  obtain ⟨e3, e4⟩ := HBE.out dm (by omega)
                  obtain ⟨e5, e6⟩ := cvV_bd (p := p) p0 D A E d e
                  rw [← hda] at e1 e2
                  rw [← hdb] at e3 e4
                  rw [← hdc] at e5 e6
                  have hbd : 0 ≤ da * db ∧ da * db ≤ 169 := ⟨Int.mul_nonneg e1 e3, by
                    have h1 : da * db ≤ 13 * 13 := Int.mul_le_mul (by omega) (by omega) e3 (by omega)
                    omega⟩
                  obtain ⟨s, hs⟩ : ∃ s, (dc + da * db) % p = s := ⟨_, rfl⟩
                  have hs0' : 0 ≤ s ∧ s < p := by rw [← hs]; exact emB p0
                  have hw0 : IntKind.i64.wrap (da * db) = da * db := IntWalk.i64_in _ (by omega)
                  have hw1 : IntKind.i64.wrap (dc + da * db) = dc + da * db := IntWalk.i64_in _ (by omega)
                  have htm : (dc + da * db).tmod p = s := by rw [Int.tmod_eq_emod_of_nonneg (by omega)]; exact hs
                  have hwm : IntKind.i64.wrap s = s := IntWalk.i64_in _ (by omega)
                  have hval : s = cvV p D A E d (e + 1) := by
                    rw [← hs, hda, hdb, hdc, hdm]
                    rfl
                  have bdr : Below m w5 wr.drew := Below.drew hbm
                  have hwd : Below wr.heap.size wr wr.drew := Below.drew (Below.refl _ _)
                  have hcc := (har.below hwd).c d (by omega)
                  have cf := (har.below hwd).f d (by omega)
                  rw [← hdc] at hcc
                  have hcc : wr.drew.cell? ⟨m, d, none⟩ = some (.int .i64 dc) := by
                    rw [hcc]
                    have : d < (resL rl d).length := by rw [resL_len (by omega)]; omega
                    simp [List.getD_eq_getElem?_getD, this]
                  have HFR := Lib.hid (show (wr.drew.cell? ⟨n, 1, none⟩ = some (.int .i64 (A : Int)) ∧ wr.drew.cell? ⟨n, 2, none⟩ = some (.int .i64 (E : Int)) ∧ wr.drew.cell? ⟨pg, A, none⟩ = some (.slice (some ⟨ga, 0, none⟩) (k + 1) ca) ∧ wr.drew.cell? ⟨pg, E, none⟩ = some (.slice (some ⟨gb, 0, none⟩) (k + 1) cb) ∧ wr.drew.cell? ⟨ga, e, none⟩ = some (.int .i64 da) ∧ wr.drew.cell? ⟨gb, dm, none⟩ = some (.int .i64 db) ∧ wr.drew.cell? ⟨m, d, none⟩ = some (.int .i64 dc)) by
                    obtain ⟨⟨t1, t2, t3, t4⟩, t5, t6⟩ := HFX.out _ bdr
                    exact ⟨t1, t2, t3, t4, by rw [hda]; exact t5 e (by omega), by rw [hdb]; exact t6 dm (by omega), hcc⟩)
                  have HA2 := Lib.hid (show ArW (wr.drew.setCell ⟨m, d, none⟩ (.int .i64 s)) m ((resL rl d).set d (cvV p D A E d (e + 1))) by
                    have hh := (har.below hwd).set (j := d) (by omega) s
                    rw [List.set_set] at hh
                    rw [← hval]
                    exact hh)
                  have HB2 := Lib.hid (show Below m w5 (wr.drew.setCell ⟨m, d, none⟩ (.int .i64 s)) from bdr.setCell (Nat.le_refl _) _)
                  have HCF := Lib.hid (And.intro hcc cf)
                  clear har hbm hda hdb hdc hs hval bdr hwd hcc cf hdm
                  go_wp2_with fail
                  refine wp_region_seq [(0, true), (1, true), (2, true), (3, true), (4, true), (5, true), (6, true), (7, true), (8, true), (9, true), (10, true), (11, true), (12, true), (13, true), (14, true), (15, true), (16, true), (17, true), (18, true), (19, true), (20, true), (21, true), (22, true), (23, true), (24, true), (25, true), (26, true), (27, true), (28, true)] (fun w' => w'.cell? ⟨n, 1, none⟩ = some (.int .i64 (A : Int)) ∧ w'.cell? ⟨n, 2, none⟩ = some (.int .i64 (E : Int)) ∧ w'.cell? ⟨pg, A, none⟩ = some (.slice (some ⟨ga, 0, none⟩) (k + 1) ca) ∧ w'.cell? ⟨pg, E, none⟩ = some (.slice (some ⟨gb, 0, none⟩) (k + 1) cb) ∧ w'.cell? ⟨ga, e, none⟩ = some (.int .i64 da) ∧ w'.cell? ⟨gb, dm, none⟩ = some (.int .i64 db) ∧ w'.cell? ⟨m, d, none⟩ = some (.int .i64 dc)) (by kernel_rfl) (by kernel_rfl) rfl (by intro c a d v w h; cases d <;> exact h) HFR.out ?_
                  iterate 29 (refine wpSeq_take (v := ?_) (List.getElem?_toArray.trans rfl) ?_ ?_; rotate_left; (intro w' hSw; (try dsimp only at hSw); go_simp; (try with_reducible rfl)); (try simp only [Act.put, List.setIfInBounds_toArray, List.set_cons_zero, List.set_cons_succ]))
                  refine wpSeq_nil ?_
                  simp only [Exit.then]
                  obtain ⟨wd, hwde⟩ : ∃ u, u = wr.drew := ⟨_, rfl⟩
                  rw [← hwde] at HCF HA2 HB2 ⊢
                  obtain ⟨cc, cf⟩ := HCF.out
                  clear hwde HFR
                  go_wp2_with fail
                  go_roundw
                  case rel => exact ⟨e + 1, by omega, by go_num, HA2.out, HB2.out⟩
                  case measure => simp [intOf]; omega
                · have hed : e = d + 1 := by omega
                  subst hed
                  have HA2 := Lib.hid (show ArW wr m (resL rl (d + 1)) by
                    rw [HVE.out, resL_set (by omega)] at har
                    exact har)
                  have HB2 := Lib.hid hbm
                  clear har hbm hsl
                  go_wp2_with fail
                  go_roundw
                  case rel => exact ⟨d + 1, by omega, by go_num, HA2.out, HB2.out⟩
                  case measure => simp [intOf]; omega
            · have hdk : d = rl.length := by omega
              subst hdk
              rw [resL_end] at har
              have HA7 := Lib.hid har
              have HB7 := Lib.hid hbm
              have hge : ¬ (rl.length : Int) < (k : Int) + 1 := by omega
              have hge2 : ¬ (rl.length : Int) < ((k + 1 : Nat) : Int) := by omega
              clear har hbm
              have HX7 := Lib.hid (show DvS wr (w.heap.size + 1) m (.slice (some ⟨pg, 0, none⟩) V.length pc) k D V ∧ PtAt wr w.heap.size x y z ∧ Below w.heap.size w wr ∧ m < wr.heap.size from
                ⟨HZ5.out.below HB7.out, HP5.out.below HB7.out (by omega), HB5.out.trans (HB7.out.mono (by omega)), HA7.out.lt⟩)
              have hVL : V.length ≤ 60 := by have := HX7.out.1.len; omega
              have HRW := Lib.hid (fun o => (HX7.out.1.below (w' := wr.alloc o) ((Below.alloc (Below.refl wr.heap.size wr) (Nat.le_refl _) o).mono (by have := HX7.out.2.2.2; omega))).row)
              have hw7 : w.heap.size + 1 ≤ wr.heap.size := by have := HX7.out.2.2.2; omega
              go_wp2_with (at_builtin; refine wpList_append_lies _ rfl _ _ 170 rfl (w.heap.size + 1) 61 is (.slice none 0 0) 1 24 Try.underlying170 his hs0 hs1 hs2 rfl (by decide) _ _ _ rfl (HRW.out _) ⟨wr.heap.size, 0, none⟩ 1 1 [.slice (some ⟨m, 0, none⟩) (k + 1) (k + 1)] rfl rfl (by intro j u hj; match j, hj with | 0, hj => (simp at hj; subst hj; simp [Addr.add, go_sem])) (by intro u hu; simp at hu; subst hu; rfl) (by omega) (by unfold maxLen; omega) (by omega) (by simp; omega) _ rfl ?_)
              intro g8 c8 w8 hown8 hgrow8 hat8 hlt8
              have H8 := Lib.hid (HX7.out.1.push HA7.out hrll (by omega) (Below.alloc (Below.refl wr.heap.size wr) (Nat.le_refl _) _) hown8 hgrow8 hat8 (by simp) hlt8)
              rw [← HNX.out] at H8
              clear hown8 hgrow8 hat8 hlt8
              go_wp2_with fail
              go_roundw
              case rel => exact ⟨j + 1, _, by omega, by go_num, H8.out.1, HX7.out.2.1.below H8.out.2 (by omega), HX7.out.2.2.1.trans (H8.out.2.mono (by omega)), by have := H8.out.2.size; omega⟩
              case measure => simp [intOf]; omega
    · have hjl : j = L.length := by omega
      subst hjl
      have hdl := dvC_len p x y z k L L.length
      obtain ⟨pg, pc, rfl, hpgB, hpgl⟩ := World.ownsRow.form hD.row (by have := hD.len; have := HQ.out; omega)
      obtain ⟨ga, ca, ea, hga, hgz, ra, hAr, hlr⟩ := hD.at (i := q) (by have := HQ.out; omega) rfl
      have hVl : V.length = L.length := by rw [hD.len]; exact hdl
      have hqi : (q : Int) < (V.length : Int) := by have := HQ.out; omega
      have HRR := Lib.hid (show R = (dvC p x y z k L L.length).getD q [] by rw [HRE.out]; unfold paL; rw [HQ.out]; rfl)
      have HAr := Lib.hid hAr
      have Hb := Lib.hid hb
      have HLR := Lib.hid hlr
      clear hD hP hb ra hAr hlr
      go_wp2_with fail
      go_ret
      rw [HRR.out]
      exact ⟨_, rfl, ⟨by rw [HLR.out]; omega, some ⟨ga, 0, none⟩, ca, by rw [HLR.out]; rfl, .inr ⟨ga, 0, rfl, by omega, HAr.out.lt, fun j hj => by rw [Nat.zero_add]; exact HAr.out.c j hj, fun j hj => by rw [Nat.zero_add]; exact HAr.out.f j hj⟩⟩, Hb.out⟩
theorem sPartsAt (p kk x y z : Int) (f : Value) (L : List Gt) (w : World) (h : Gats w f L) :
    Calls Try.prog 63 #[.int .i64 p, f, .int .i64 kk, .agg #[.int .i64 x, .int .i64 y, .int .i64 z]] w fun e w' => ∃ u, e = .returned u ∧ OwnInts w' w.heap.size u (paV p kk x y z L) ∧ Below w.heap.size w w' := by
  cases hn : ((circB p L && inB kk 0 9) && isE3 p x y z)
  · have e : paV p kk x y z L = [] := by unfold paV; rw [hn]; rfl
    rw [e]
    exact sPa_not p kk x y z f L w h hn
  · have hn2 := hn
    simp only [Bool.and_eq_true] at hn2
    have hk : 0 ≤ kk ∧ kk ≤ 9 := by simpa [inB] using hn2.1.2
    obtain ⟨k, rfl⟩ := Int.eq_ofNat_of_zero_le hk.1
    refine sPa_yes p x y z k f L w h hn2.1.1 (by omega) hn2.2 _ ?_
    unfold paV
    rw [if_pos hn]
    rfl
end Go.Proofs.Ytlidplmpglpkgaa
