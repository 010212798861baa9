/-
  The walk of the law of ScaleUnknowns. Conditions: none but that the bytes can be read.
-/
import Derived.Test.YtlidplmpglpkgaaBd3
import Derived.Test.YtlidplmpglpkgaaBa28
import Derived.Test.YtlidplmpglpkgaaBd8
namespace Go.Proofs.Ytlidplmpglpkgaa
open Go.RowKit
/-- polynomials, a point in a block, and another one in a block behind it -/
structure PY (w0 : World) (zs : List VT) (X : Nat) (x y z : Int) (Y : Nat) (a b c : Int) (wr : World) : Prop where
  low : Below w0.heap.size w0 wr
  rd : ∀ q ∈ zs, ∃ g, Trms g q.1 q.2 ∧ g.heap.size ≤ X ∧ g.heap.size ≤ wr.heap.size ∧ ∀ k, k < X → k < g.heap.size → wr.heap[k]? = g.heap[k]?
  pa : PtB wr X x y z
  pb : PtB wr Y a b c
  wx : w0.heap.size ≤ X
  xy : X < Y
theorem PY.new {w0 wr : World} {zs : List VT} {X : Nat} {x y z : Int} (h : PX w0 zs X x y z wr) (a b c : Int) : PY w0 zs X x y z wr.heap.size a b c (wr.alloc (Obj.cells #[.int .i64 a, .int .i64 b, .int .i64 c] 33)) := by
  have hb : Below wr.heap.size wr (wr.alloc (Obj.cells #[.int .i64 a, .int .i64 b, .int .i64 c] 33)) := Below.alloc (Below.refl wr.heap.size wr) (Nat.le_refl _) _
  have h' := h.on hb
  exact ⟨h'.low, h'.rd, h'.pt, PtB.new wr a b c, h.wx, h.pt.sz⟩
theorem PY.on {w0 wr w' : World} {zs : List VT} {X : Nat} {x y z : Int} {Y : Nat} {a b c : Int} (h : PY w0 zs X x y z Y a b c wr) (hb : Below wr.heap.size wr w') : PY w0 zs X x y z Y a b c w' :=
  ⟨h.low.trans (hb.mono h.low.size), fun q hq => by
    obtain ⟨g, h1, h2, h3, h4⟩ := h.rd q hq
    exact ⟨g, h1, h2, Nat.le_trans h3 hb.size, fun k k1 k2 => (hb.block k (by omega)).trans (h4 k k1 k2)⟩, h.pa.on hb, h.pb.on hb, h.wx, h.xy⟩
theorem PtB.far {wr : World} {X Y : Nat} {x y z : Int} (h : PtB wr X x y z) (hn : X ≠ Y) (o : Nat) (u : Value) : PtB (wr.setCell ⟨Y, o, none⟩ u) X x y z := by
  have hk : (wr.setCell ⟨Y, o, none⟩ u).heap[X]? = wr.heap[X]? := Below.heap_setCell _ _ _ _ hn
  exact ⟨by rw [World.cell?_of_block (a := ⟨X, 0, none⟩) hk]; exact h.c0, by rw [World.cell?_of_block (a := ⟨X, 1, none⟩) hk]; exact h.c1, by rw [World.cell?_of_block (a := ⟨X, 2, none⟩) hk]; exact h.c2, fun i => by rw [World.frozen?_setCell]; exact h.f i, by simpa using h.sz⟩
theorem PY.st {w0 wr : World} {zs : List VT} {X : Nat} {x y z : Int} {Y : Nat} {a b c a' b' c' : Int} {o : Nat} {u : Value} (h : PY w0 zs X x y z Y a b c wr) (hp : PtB (wr.setCell ⟨Y, o, none⟩ u) Y a' b' c') : PY w0 zs X x y z Y a' b' c' (wr.setCell ⟨Y, o, none⟩ u) :=
  ⟨h.low.setCell (Nat.le_trans h.wx (Nat.le_of_lt h.xy)) _, fun q hq => by
    obtain ⟨g, h1, h2, h3, h4⟩ := h.rd q hq
    have hxy := h.xy
    exact ⟨g, h1, h2, by simpa using h3, fun k k1 k2 => (Below.heap_setCell _ _ _ _ (show k ≠ Y by omega)).trans (h4 k k1 k2)⟩, h.pa.far (Nat.ne_of_lt h.xy) o u, hp, h.wx, h.xy⟩
theorem PY.pk {w0 wr : World} {zs : List VT} {X : Nat} {x y z : Int} {Y : Nat} {a b c : Int} (h : PY w0 zs X x y z Y a b c wr) : PK w0 zs wr :=
  ⟨h.low, fun q hq => by
    obtain ⟨g, h1, h2, h3, h4⟩ := h.rd q hq
    exact trms_far (B := g.heap.size) h1 (Nat.le_refl _) (fun k hk => h4 k (by omega) hk) h3⟩
set_option maxRecDepth 100000 in
set_option maxHeartbeats 16000000 in
theorem wScaleUnknowns_in (a : Option Addr) (len cap : Nat) (a' : Option Addr) (len' cap' : Nat) (w : World) (h : ByteRow w a len cap) (h' : ByteRow w a' len' cap') (hl : len ≤ 1048576) (hl' : len' ≤ 1048576) :
    Calls Try.prog 14 #[.slice a len cap, .slice a' len' cap'] w fun e w' => e = .returned (.bool true) ∧ Below w.heap.size w w' := by
  have hlp : (len : Int) ≤ 1048576 := by omega
  have hlp' : (len' : Int) ≤ 1048576 := by omega
  have HB' := Lib.hid h'
  have HD := Lib.hid (drawScaleUnknowns a len cap w h)
  clear h h'
  go_enter Try.func14, Try.ntmps14
  go_wp2_with fail
  refine HD.out.mono ?_
  rintro e w1 ⟨p, f, L, c, rfl, hL, hr1, hb1⟩
  have HK1 := Lib.hid (show PK w [(f, L)] w1 from ⟨hb1, fun z hz => by
    rcases List.mem_cons.1 hz with rfl | hz
    · exact (hr1.own (by omega)).trms
    · cases hz⟩)
  clear hr1 hb1 HD
  go_wp2_with fail
  refine (iScaleUnknowns p f L c w1 (HK1.out.g (by simp))).mono ?_
  rintro e w2 ⟨hv, rfl, ho, hb⟩
  have HK2 := Lib.hid ((HK1.out.on hb).add ho.trms)
  clear ho hb HK1
  go_wp2_with fail
  refine (sScaleUnknowns p f L c w2 (HK2.out.g (by simp))).mono ?_
  rintro e w3 ⟨wv, rfl, ho, hb⟩
  have HK3 := Lib.hid ((HK2.out.on hb).add ho.trms)
  clear ho hb HK2
  obtain ⟨ok, hok⟩ : ∃ ok, ok = ((isP p && validB p L) && isE p c) := ⟨_, rfl⟩
  have HOK := Lib.hid hok
  rw [← hok]
  clear hok
  have hbb : (ok != ok) = false := by cases ok <;> rfl
  go_wp2_with fail
  refine (acP hv wv (scuV p c L) w3 (HK3.out.g (by simp)) (HK3.out.g (by simp))).mono ?_
  rintro e w4 ⟨rfl, hb⟩
  have HK4 := Lib.hid (HK3.out.on hb)
  clear hb HK3
  cases ok
  · go_wp2_with fail
    refine (acP hv wv (scuV p c L) w4 (HK4.out.g (by simp)) (HK4.out.g (by simp))).mono ?_
    rintro e w5 ⟨rfl, hb⟩
    have HK5 := Lib.hid (HK4.out.on hb)
    clear hb HK4
    go_wp2_with fail
    go_ret
    exact ⟨rfl, HK5.out.low⟩
  · have hF : ScuF p c L (scuV p c L) := by
      have h := HOK.out.symm
      have e : scuV p c L = tmL p (hPow p c) L := by unfold scuV; rw [if_pos h]
      simp only [Bool.and_eq_true] at h
      rw [e]
      exact scuF h.1.1 h.1.2 h.2
    generalize scuV p c L = G at HK4 hF
    have HF := Lib.hid hF
    clear hF
    go_wp2_with fail
    refine (acPoint_any p HF.out.hp a' len' cap' w4 (HB'.out.below HK4.out.low)).mono ?_
    rintro e w5 ⟨x, y, z, rfl, hE, hb⟩
    have HE := Lib.hid hE
    have HX := Lib.hid (PX.new (HK4.out.on hb) x y z)
    have HY := Lib.hid (PY.new HX.out x y z)
    clear hb hE HK4 HX
    obtain ⟨X, hX⟩ : ∃ X, X = w5.heap.size := ⟨_, rfl⟩
    obtain ⟨W6, hW6⟩ : ∃ W, W = w5.alloc (Obj.cells #[.int .i64 x, .int .i64 y, .int .i64 z] 33) := ⟨_, rfl⟩
    rw [← hX, ← hW6] at HY
    obtain ⟨Y, hY⟩ : ∃ Y, Y = W6.heap.size := ⟨_, rfl⟩
    obtain ⟨W7, hW7⟩ : ∃ W, W = W6.alloc (Obj.cells #[.int .i64 x, .int .i64 y, .int .i64 z] 33) := ⟨_, rfl⟩
    rw [← hY, ← hW7] at HY
    have HW := Lib.hid (show (X = w5.heap.size ∧ W6 = w5.alloc (Obj.cells #[.int .i64 x, .int .i64 y, .int .i64 z] 33)) ∧ (Y = W6.heap.size ∧ W7 = W6.alloc (Obj.cells #[.int .i64 x, .int .i64 y, .int .i64 z] 33)) from ⟨⟨hX, hW6⟩, hY, hW7⟩)
    have z0 : W6.cell? ⟨X, 0, none⟩ = some (.int .i64 x) := by rw [hX, hW6]; simp [go_sem]
    have z1 : W6.cell? ⟨X, 1, none⟩ = some (.int .i64 y) := by rw [hX, hW6]; simp [go_sem]
    have z2 : W6.cell? ⟨X, 2, none⟩ = some (.int .i64 z) := by rw [hX, hW6]; simp [go_sem]
    clear hX hW6 hY hW7
    go_upto_region 9 with fail
    rw [← HW.out.1.2, ← HW.out.1.1]
    go_upto_region 10 with fail
    rw [← HW.out.2.2, ← HW.out.2.1]
    clear HW z0 z1 z2
    go_wp2_with fail
    refine wp_loop_rounds 4 ?_
    rw [rounds_succ]
    have c0 := HY.out.pa.c0
    go_wp2_with fail
    refine (iMul p x c _).mono ?_
    rintro e w8 ⟨rfl, hb⟩
    have HY8 := Lib.hid (HY.out.on hb)
    clear hb HY c0
    have d0 := HY8.out.pb.c0
    have f0 := HY8.out.pb.f 0
    have HZ8 := Lib.hid (HY8.out.st (HY8.out.pb.s0 (mulV p x c)))
    go_wp2_with fail
    clear d0 f0 HY8
    generalize w8.setCell ⟨Y, 0, none⟩ (.int .i64 (mulV p x c)) = W8 at *
    rw [rounds_succ]
    have c1 := HZ8.out.pa.c1
    go_wp2_with fail
    refine (iMul p y c _).mono ?_
    rintro e w9 ⟨rfl, hb⟩
    have HY9 := Lib.hid (HZ8.out.on hb)
    clear hb HZ8 c1
    have d1 := HY9.out.pb.c1
    have f1 := HY9.out.pb.f 1
    have HZ9 := Lib.hid (HY9.out.st (HY9.out.pb.s1 (mulV p y c)))
    go_wp2_with fail
    clear d1 f1 HY9
    generalize w9.setCell ⟨Y, 1, none⟩ (.int .i64 (mulV p y c)) = W9 at *
    rw [rounds_succ]
    have c2 := HZ9.out.pa.c2
    go_wp2_with fail
    refine (iMul p z c _).mono ?_
    rintro e w10 ⟨rfl, hb⟩
    have HY10 := Lib.hid (HZ9.out.on hb)
    clear hb HZ9 c2
    have d2 := HY10.out.pb.c2
    have f2 := HY10.out.pb.f 2
    have HZ10 := Lib.hid (HY10.out.st (HY10.out.pb.s2 (mulV p z c)))
    go_wp2_with fail
    clear d2 f2 HY10
    generalize w10.setCell ⟨Y, 2, none⟩ (.int .i64 (mulV p z c)) = W10 at *
    rw [rounds_succ]
    have HEv := Lib.hid (HF.out.ev x y z HE.out)
    generalize mulV p x c = mx at *
    generalize mulV p y c = my at *
    generalize mulV p z c = mz at *
    have HK10 := Lib.hid HZ10.out.pk
    have HPA := Lib.hid HZ10.out.pa
    have HPB := Lib.hid HZ10.out.pb
    clear HZ10
    go_wp2_with fail
    go_loopw [87] (fun i wr => ∃ k : Nat, k ≤ 4 ∧ i = .int .i64 k ∧ Below W10.heap.size W10 wr) (fun i _ => 4 - (intOf i).toNat)
    case atStart => exact ⟨0, by omega, rfl, Below.refl _ _⟩
    case round =>
      rename_i K' hK'
      have HK' := Lib.hid hK'
      clear hK'
      obtain ⟨k, hk, rfl, hw⟩ := hrel
      have HB := Lib.hid hw
      have HK := Lib.hid (HK10.out.on hw)
      clear hw
      by_cases hlt : k < 4
      · have hltp : (k : Int) < 4 := by omega
        have hk0 : (0 : Int) ≤ (k : Int) := by omega
        go_wp2_with fail
        refine (iPartPoly p f L k _ (HK.out.g (by simp))).mono ?_
        rintro e w11 ⟨qv, rfl, ho, hb⟩
        have HK11 := Lib.hid ((HK.out.on hb).add ho.trms)
        have HB11 := Lib.hid (HB.out.trans (hb.mono HB.out.size))
        clear ho hb HK HB
        go_wp2_with fail
        refine (iPartPoly p hv G k _ (HK11.out.g (by simp))).mono ?_
        rintro e w12 ⟨ov, rfl, ho, hb⟩
        have HK12 := Lib.hid ((HK11.out.on hb).add ho.trms)
        have HB12 := Lib.hid (HB11.out.trans (hb.mono HB11.out.size))
        clear ho hb HK11 HB11
        go_wp2_with fail
        refine (iPowerIn p c k (by omega) _).mono ?_
        rintro e w13 ⟨rfl, hb⟩
        have HK13 := Lib.hid (HK12.out.on hb)
        have HB13 := Lib.hid (HB12.out.trans (hb.mono HB12.out.size))
        clear hb HK12 HB12
        go_wp2_with fail
        refine (iScalePoly p qv (partL p L k) (powV p c k) _ (HK13.out.g (by simp))).mono ?_
        rintro e w14 ⟨tv, rfl, ho, hb⟩
        rw [HF.out.pw k hk0] at ho
        have HK14 := Lib.hid ((HK13.out.on hb).add ho.trms)
        have HB14 := Lib.hid (HB13.out.trans (hb.mono HB13.out.size))
        clear ho hb HK13 HB13
        go_wp2_with fail
        refine (acP tv ov (partL p G k) w14 (HK14.out.g (by simp)) (HK14.out.g (by simp))).mono ?_
        rintro e w15 ⟨rfl, hb⟩
        have HB15 := Lib.hid (HB14.out.trans (hb.mono HB14.out.size))
        clear hb HK14 HB14
        go_wp2_with fail
        go_roundw
        case rel => exact ⟨k + 1, by omega, by go_num, HB15.out⟩
        case measure => simp [intOf]; omega
      · have hkl : k = 4 := by omega
        subst hkl
        have HP := Lib.hid (fun w' (hb : Below wr.heap.size wr w') => And.intro (HPA.out.on (HB.out.trans (hb.mono HB.out.size))) (HPB.out.on (HB.out.trans (hb.mono HB.out.size))))
        have HI1 := Lib.hid (fun w' (hb : Below wr.heap.size wr w') => iEvalPoly p x y z hv G w' ((HK.out.on hb).g (by simp)))
        have HI2 := Lib.hid (fun w' (hb : Below wr.heap.size wr w') => iEvalPoly p mx my mz f L w' ((HK.out.on hb).g (by simp)))
        rw [HEv.out] at HI2
        generalize evV p x y z G = es at *
        by_cases h1 : c = 1
        · have hG := HF.out.on h1
          subst h1
          have HA1 := Lib.hid (fun w' (hb : Below wr.heap.size wr w') => acP hv f L w' (hG ▸ (HK.out.on hb).g (L := G) (by simp)) ((HK.out.on hb).g (by simp)))
          clear hG
          go_upto_region 24 with fail
          refine HK'.out _ _ ?_
          clear HK'
          go_upto_region 24 with fail
          refine wp_region_below (by kernel_rfl) (by kernel_rfl) ?_
          iterate 2 (with_reducible refine wpQuiet_yes ?_ ?_; (focus (kernel_rfl)); intro K hK; go_simp; refine ⟨_, fun _ _ => rfl, ?_⟩; with_reducible refine hK _ ?_; clear hK K)
          (with_reducible refine wpQuiet_yes ?_ ?_; (focus (kernel_rfl)); intro K hK; go_simp; refine ⟨(.agg #[.int .i64 x, .int .i64 y, .int .i64 z]), ?_, ?_⟩; rotate_left; with_reducible refine hK _ ?_; clear hK K; rotate_left)
          · intro w' hw
            obtain ⟨c0, c1, c2, _, _⟩ := (HP.out w' hw).1
            simp only [c0, c1, c2, go_sem, Result.andThen, and_self]
          (with_reducible refine wpQuiet_yes ?_ ?_; (focus (kernel_rfl)); intro K hK; go_simp; refine ⟨(.int .i64 es), ?_, ?_⟩; rotate_left; with_reducible refine hK _ ?_; clear hK K; rotate_left)
          · intro w' hw
            exact (HI1.out w' hw).mono fun e w'' ⟨he, h⟩ => ⟨he, hw.trans (h.mono hw.size)⟩
          iterate 2 (with_reducible refine wpQuiet_yes ?_ ?_; (focus (kernel_rfl)); intro K hK; go_simp; refine ⟨_, fun _ _ => rfl, ?_⟩; with_reducible refine hK _ ?_; clear hK K)
          (with_reducible refine wpQuiet_yes ?_ ?_; (focus (kernel_rfl)); intro K hK; go_simp; refine ⟨(.agg #[.int .i64 mx, .int .i64 my, .int .i64 mz]), ?_, ?_⟩; rotate_left; with_reducible refine hK _ ?_; clear hK K; rotate_left)
          · intro w' hw
            obtain ⟨c0, c1, c2, _, _⟩ := (HP.out w' hw).2
            simp only [c0, c1, c2, go_sem, Result.andThen, and_self]
          (with_reducible refine wpQuiet_yes ?_ ?_; (focus (kernel_rfl)); intro K hK; go_simp; refine ⟨(.int .i64 es), ?_, ?_⟩; rotate_left; with_reducible refine hK _ ?_; clear hK K; rotate_left)
          · intro w' hw
            exact (HI2.out w' hw).mono fun e w'' ⟨he, h⟩ => ⟨he, hw.trans (h.mono hw.size)⟩
          (with_reducible refine wpQuiet_yes ?_ ?_; (focus (kernel_rfl)); intro K hK; go_simp; refine ⟨(.bool true), ?_, ?_⟩; rotate_left; with_reducible refine hK _ ?_; clear hK K; rotate_left)
          · intro w' hw
            simp
          iterate 2 (with_reducible refine wpQuiet_yes ?_ ?_; (focus (kernel_rfl)); intro K hK; go_simp; refine ⟨_, fun _ _ => rfl, ?_⟩; with_reducible refine hK _ ?_; clear hK K)
          (with_reducible refine wpQuiet_yes ?_ ?_; (focus (kernel_rfl)); intro K hK; go_simp; refine ⟨(.bool false), ?_, ?_⟩; rotate_left; with_reducible refine hK _ ?_; clear hK K; rotate_left)
          · intro w' hw
            simp
          iterate 3 (with_reducible refine wpQuiet_yes ?_ ?_; (focus (kernel_rfl)); intro K hK; go_simp; refine ⟨_, fun _ _ => rfl, ?_⟩; with_reducible refine hK _ ?_; clear hK K)
          (with_reducible refine wpQuiet_yes ?_ ?_; (focus (kernel_rfl)); intro K hK; go_simp; refine ⟨(.bool true), ?_, ?_⟩; rotate_left; with_reducible refine hK _ ?_; clear hK K; rotate_left)
          · intro w' hw
            exact (HA1.out w' hw).mono fun e w'' ⟨he, h⟩ => ⟨he, hw.trans (h.mono hw.size)⟩
          iterate 3 (with_reducible refine wpQuiet_yes ?_ ?_; (focus (kernel_rfl)); intro K hK; go_simp; refine ⟨_, fun _ _ => rfl, ?_⟩; with_reducible refine hK _ ?_; clear hK K)
          refine wpQuiet_nil fun w2 hb2 => ?_
          have HQ := Lib.hid ((HK.out.on hb2).low)
          clear hb2
          simp only [Exit.then]
          go_wp2_with fail
          go_ret
          exact ⟨rfl, HQ.out⟩
        · go_upto_region 24 with fail
          refine HK'.out _ _ ?_
          clear HK'
          go_upto_region 24 with fail
          refine wp_region_below (by kernel_rfl) (by kernel_rfl) ?_
          iterate 2 (with_reducible refine wpQuiet_yes ?_ ?_; (focus (kernel_rfl)); intro K hK; go_simp; refine ⟨_, fun _ _ => rfl, ?_⟩; with_reducible refine hK _ ?_; clear hK K)
          (with_reducible refine wpQuiet_yes ?_ ?_; (focus (kernel_rfl)); intro K hK; go_simp; refine ⟨(.agg #[.int .i64 x, .int .i64 y, .int .i64 z]), ?_, ?_⟩; rotate_left; with_reducible refine hK _ ?_; clear hK K; rotate_left)
          · intro w' hw
            obtain ⟨c0, c1, c2, _, _⟩ := (HP.out w' hw).1
            simp only [c0, c1, c2, go_sem, Result.andThen, and_self]
          (with_reducible refine wpQuiet_yes ?_ ?_; (focus (kernel_rfl)); intro K hK; go_simp; refine ⟨(.int .i64 es), ?_, ?_⟩; rotate_left; with_reducible refine hK _ ?_; clear hK K; rotate_left)
          · intro w' hw
            exact (HI1.out w' hw).mono fun e w'' ⟨he, h⟩ => ⟨he, hw.trans (h.mono hw.size)⟩
          iterate 2 (with_reducible refine wpQuiet_yes ?_ ?_; (focus (kernel_rfl)); intro K hK; go_simp; refine ⟨_, fun _ _ => rfl, ?_⟩; with_reducible refine hK _ ?_; clear hK K)
          (with_reducible refine wpQuiet_yes ?_ ?_; (focus (kernel_rfl)); intro K hK; go_simp; refine ⟨(.agg #[.int .i64 mx, .int .i64 my, .int .i64 mz]), ?_, ?_⟩; rotate_left; with_reducible refine hK _ ?_; clear hK K; rotate_left)
          · intro w' hw
            obtain ⟨c0, c1, c2, _, _⟩ := (HP.out w' hw).2
            simp only [c0, c1, c2, go_sem, Result.andThen, and_self]
          (with_reducible refine wpQuiet_yes ?_ ?_; (focus (kernel_rfl)); intro K hK; go_simp; refine ⟨(.int .i64 es), ?_, ?_⟩; rotate_left; with_reducible refine hK _ ?_; clear hK K; rotate_left)
          · intro w' hw
            exact (HI2.out w' hw).mono fun e w'' ⟨he, h⟩ => ⟨he, hw.trans (h.mono hw.size)⟩
          (with_reducible refine wpQuiet_yes ?_ ?_; (focus (kernel_rfl)); intro K hK; go_simp; refine ⟨(.bool true), ?_, ?_⟩; rotate_left; with_reducible refine hK _ ?_; clear hK K; rotate_left)
          · intro w' hw
            simp
          iterate 2 (with_reducible refine wpQuiet_yes ?_ ?_; (focus (kernel_rfl)); intro K hK; go_simp; refine ⟨_, fun _ _ => rfl, ?_⟩; with_reducible refine hK _ ?_; clear hK K)
          (with_reducible refine wpQuiet_yes ?_ ?_; (focus (kernel_rfl)); intro K hK; go_simp; refine ⟨(.bool true), ?_, ?_⟩; rotate_left; with_reducible refine hK _ ?_; clear hK K; rotate_left)
          · intro w' hw
            simp [h1]
          (with_reducible refine wpQuiet_yes ?_ ?_; (focus (kernel_rfl)); intro K hK; go_simp; refine ⟨_, fun _ _ => rfl, ?_⟩; with_reducible refine hK _ ?_; clear hK K)
          iterate 3 (with_reducible refine wpQuiet_no ?_ ?_; (focus (kernel_rfl)); intro K hK; go_simp; with_reducible refine hK _ ?_; clear hK K)
          iterate 3 (with_reducible refine wpQuiet_yes ?_ ?_; (focus (kernel_rfl)); intro K hK; go_simp; refine ⟨_, fun _ _ => rfl, ?_⟩; with_reducible refine hK _ ?_; clear hK K)
          refine wpQuiet_nil fun w2 hb2 => ?_
          have HQ := Lib.hid ((HK.out.on hb2).low)
          clear hb2
          simp only [Exit.then]
          go_wp2_with fail
          go_ret
          exact ⟨rfl, HQ.out⟩
set_option maxHeartbeats 2000000 in
theorem wScaleUnknowns_long (a : Option Addr) (len cap : Nat) (a' : Option Addr) (len' cap' : Nat) (w : World) (h1 : len ≤ 9223372036854775807) (h2 : len' ≤ 9223372036854775807) (hl : ¬ (len ≤ 1048576 ∧ len' ≤ 1048576)) :
    Calls Try.prog 14 #[.slice a len cap, .slice a' len' cap'] w fun e w' => e = .returned (.bool true) ∧ Below w.heap.size w w' := by
  by_cases h : len ≤ 1048576
  · have hp : (len : Int) ≤ 1048576 := by omega
    have hq : (1048576 : Int) < (len' : Int) := by omega
    go_enter Try.func14, Try.ntmps14
    go_wp2_with fail
    go_ret
    exact ⟨rfl, Below.refl _ _⟩
  · have hp : (1048576 : Int) < (len : Int) := by omega
    go_enter Try.func14, Try.ntmps14
    go_wp2_with fail
    go_ret
    exact ⟨rfl, Below.refl _ _⟩
theorem wScaleUnknowns (a : Option Addr) (len cap : Nat) (a' : Option Addr) (len' cap' : Nat) (w : World) (h : ByteRow w a len cap) (h' : ByteRow w a' len' cap') :
    Calls Try.prog 14 #[.slice a len cap, .slice a' len' cap'] w fun e w' => e = .returned (.bool true) ∧ Below w.heap.size w w' := by
  by_cases hl : len ≤ 1048576 ∧ len' ≤ 1048576
  · exact wScaleUnknowns_in a len cap a' len' cap' w h h' hl.1 hl.2
  · exact wScaleUnknowns_long a len cap a' len' cap' w (Nat.le_trans h.1 h.2.1) (Nat.le_trans h'.1 h'.2.1) hl
end Go.Proofs.Ytlidplmpglpkgaa
