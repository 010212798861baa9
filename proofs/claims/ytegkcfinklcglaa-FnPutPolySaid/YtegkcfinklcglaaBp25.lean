/-
  The walk of the law of AddPoly. Conditions: none but that the bytes can be read.
-/
import Derived.Test.YtegkcfinklcglaaBp22
import Derived.Test.YtegkcfinklcglaaBp23
import Derived.Test.YtegkcfinklcglaaBp24
import Derived.Test.YtegkcfinklcglaaBp11
import Derived.Test.YtegkcfinklcglaaBp20
namespace Go.Proofs.Ytegkcfinklcglaa
open Go.RowKit
/-- a point in a block that may be written -/
structure PtB (w : World) (X : Nat) (x y z : Int) : Prop where
  c0 : w.cell? ⟨X, 0, none⟩ = some (.int .i64 x)
  c1 : w.cell? ⟨X, 1, none⟩ = some (.int .i64 y)
  c2 : w.cell? ⟨X, 2, none⟩ = some (.int .i64 z)
  f : ∀ i, w.frozen? ⟨X, i, none⟩ = false
  sz : X < w.heap.size
theorem PtB.on {w w' : World} {X : Nat} {x y z : Int} (h : PtB w X x y z) (hb : Below w.heap.size w w') : PtB w' X x y z :=
  ⟨by rw [hb.cell (p := ⟨X, 0, none⟩) h.sz]; exact h.c0, by rw [hb.cell (p := ⟨X, 1, none⟩) h.sz]; exact h.c1, by rw [hb.cell (p := ⟨X, 2, none⟩) h.sz]; exact h.c2, fun i => by rw [hb.frozen (p := ⟨X, i, none⟩) h.sz]; exact h.f i, Nat.lt_of_lt_of_le h.sz hb.size⟩
theorem PtB.new (w : World) (x y z : Int) : PtB (w.alloc (Obj.cells #[.int .i64 x, .int .i64 y, .int .i64 z] 30)) w.heap.size x y z :=
  ⟨by simp [go_sem], by simp [go_sem], by simp [go_sem], fun i => World.frozen?_alloc_at _ _ _ i rfl, by simp⟩
theorem PtB.s0 {w : World} {X : Nat} {x y z : Int} (h : PtB w X x y z) (v : Int) : PtB (w.setCell ⟨X, 0, none⟩ (.int .i64 v)) X v y z :=
  ⟨World.cell?_setCell_same _ _ _ h.c0, by rw [World.cell?_setCell_other _ _ _ _ (by simp)]; exact h.c1, by rw [World.cell?_setCell_other _ _ _ _ (by simp)]; exact h.c2, fun i => by rw [World.frozen?_setCell]; exact h.f i, by simpa using h.sz⟩
theorem PtB.s1 {w : World} {X : Nat} {x y z : Int} (h : PtB w X x y z) (v : Int) : PtB (w.setCell ⟨X, 1, none⟩ (.int .i64 v)) X x v z :=
  ⟨by rw [World.cell?_setCell_other _ _ _ _ (by simp)]; exact h.c0, World.cell?_setCell_same _ _ _ h.c1, by rw [World.cell?_setCell_other _ _ _ _ (by simp)]; exact h.c2, fun i => by rw [World.frozen?_setCell]; exact h.f i, by simpa using h.sz⟩
theorem PtB.s2 {w : World} {X : Nat} {x y z : Int} (h : PtB w X x y z) (v : Int) : PtB (w.setCell ⟨X, 2, none⟩ (.int .i64 v)) X x y v :=
  ⟨by rw [World.cell?_setCell_other _ _ _ _ (by simp)]; exact h.c0, by rw [World.cell?_setCell_other _ _ _ _ (by simp)]; exact h.c1, World.cell?_setCell_same _ _ _ h.c2, fun i => by rw [World.frozen?_setCell]; exact h.f i, by simpa using h.sz⟩
theorem trms_far {w w' : World} {v : Value} {L : List Trm} {B : Nat} (h : Trms w v L) (hB : w.heap.size ≤ B) (hb : ∀ k, k < B → w'.heap[k]? = w.heap[k]?) (hs : w.heap.size ≤ w'.heap.size) : Trms w' v L := by
  obtain ⟨h1, a, cap, rfl, h2⟩ := h
  refine ⟨h1, a, cap, rfl, ?_⟩
  rcases h2 with h2 | ⟨g, off, rfl, hg, hc⟩
  · exact .inl h2
  · refine .inr ⟨g, off, rfl, Nat.lt_of_lt_of_le hg hs, fun j hj => ?_⟩
    obtain ⟨c0, c1, c2, c3⟩ := hc j hj
    have e := hb g (by omega)
    exact ⟨by rw [World.cell?_of_block (a := ⟨g, off + j * 4, none⟩) e]; exact c0, by rw [World.cell?_of_block (a := ⟨g, off + j * 4 + 1, none⟩) e]; exact c1, by rw [World.cell?_of_block (a := ⟨g, off + j * 4 + 2, none⟩) e]; exact c2, by rw [World.cell?_of_block (a := ⟨g, off + j * 4 + 3, none⟩) e]; exact c3⟩
/-- polynomials and a point in a block of its own -/
structure PX (w0 : World) (zs : List VT) (X : Nat) (x y z : Int) (wr : World) : Prop where
  low : Below w0.heap.size w0 wr
  rd : ∀ q ∈ zs, ∃ g, Trms g q.1 q.2 ∧ g.heap.size ≤ X ∧ g.heap.size ≤ wr.heap.size ∧ ∀ k, k < X → k < g.heap.size → wr.heap[k]? = g.heap[k]?
  pt : PtB wr X x y z
  wx : w0.heap.size ≤ X
theorem PX.new {w0 wr : World} {zs : List VT} (h : PK w0 zs wr) (x y z : Int) : PX w0 zs wr.heap.size x y z (wr.alloc (Obj.cells #[.int .i64 x, .int .i64 y, .int .i64 z] 30)) :=
  ⟨Below.alloc h.low h.low.size _, fun q hq => ⟨wr, h.rd q hq, Nat.le_refl _, by simp, fun k _ hk => (Below.alloc (Below.refl wr.heap.size wr) (Nat.le_refl _) _).block k hk⟩, PtB.new wr x y z, h.low.size⟩
theorem PX.on {w0 wr w' : World} {zs : List VT} {X : Nat} {x y z : Int} (h : PX w0 zs X x y z wr) (hb : Below wr.heap.size wr w') : PX w0 zs X x y z w' :=
  ⟨h.low.trans (hb.mono h.low.size), fun q hq => by
    obtain ⟨g, h1, h2, h3, h4⟩ := h.rd q hq
    exact ⟨g, h1, h2, Nat.le_trans h3 hb.size, fun k k1 k2 => (hb.block k (by omega)).trans (h4 k k1 k2)⟩, h.pt.on hb, h.wx⟩
theorem PX.st {w0 wr : World} {zs : List VT} {X : Nat} {x y z x' y' z' : Int} {o : Nat} {u : Value} (h : PX w0 zs X x y z wr) (hp : PtB (wr.setCell ⟨X, o, none⟩ u) X x' y' z') : PX w0 zs X x' y' z' (wr.setCell ⟨X, o, none⟩ u) :=
  ⟨h.low.setCell h.wx _, fun q hq => by
    obtain ⟨g, h1, h2, h3, h4⟩ := h.rd q hq
    exact ⟨g, h1, h2, by simpa using h3, fun k k1 k2 => (Below.heap_setCell _ _ _ _ (show k ≠ X by omega)).trans (h4 k k1 k2)⟩, hp, h.wx⟩
theorem PX.g {w0 wr : World} {zs : List VT} {X : Nat} {x y z : Int} (h : PX w0 zs X x y z wr) {v : Value} {L : List Trm} (hm : (v, L) ∈ zs) : Trms wr v L := by
  obtain ⟨g, h1, h2, h3, h4⟩ := h.rd _ hm
  exact trms_far (B := g.heap.size) h1 (Nat.le_refl _) (fun k hk => h4 k (by omega) hk) h3
theorem red3 {p : Int} (hp : isP p = true) (x y z : Int) : isE3 p (x % p) (y % p) (z % p) = true := by
  have hb := isP_bd hp
  unfold isE3
  rw [isE_iff.2 (emod_bd (by omega)), isE_iff.2 (emod_bd (by omega)), isE_iff.2 (emod_bd (by omega))]
  rfl
set_option maxRecDepth 100000 in
set_option maxHeartbeats 16000000 in
theorem wAddPoly_in (a : Option Addr) (len cap : Nat) (a' : Option Addr) (len' cap' : Nat) (w : World) (h : ByteRow w a len cap) (h' : ByteRow w a' len' cap') (hl : len ≤ 1048576) (hl' : len' ≤ 1048576) :
    Calls Try.prog 4 #[.slice a len cap, .slice a' len' cap'] w fun e w' => e = .returned (.bool true) ∧ Below w.heap.size w w' := by
  have hlp : (len : Int) ≤ 1048576 := by omega
  have hlp' : (len' : Int) ≤ 1048576 := by omega
  have HB' := Lib.hid h'
  have HD := Lib.hid (drawAddPoly a len cap w h)
  clear h h'
  go_enter Try.func4, Try.ntmps4
  go_wp2_with fail
  refine HD.out.mono ?_
  rintro e w1 ⟨p, f, g, L, M, rfl, hL, hM, hr1, hr2, hb1⟩
  have HK1 := Lib.hid (show PK w [(f, L), (g, M)] w1 from ⟨hb1, fun z hz => by
    rcases List.mem_cons.1 hz with rfl | hz
    · exact (hr1.own (by omega)).trms
    · rcases List.mem_cons.1 hz with rfl | hz
      · exact (hr2.own (by omega)).trms
      · cases hz⟩)
  clear hr1 hr2 hb1 HD
  go_wp2_with fail
  refine (iAddPoly p f g L M w1 (HK1.out.g (by simp)) (HK1.out.g (by simp))).mono ?_
  rintro e w2 ⟨hv, rfl, ho, hb⟩
  have HK2 := Lib.hid ((HK1.out.on hb).add ho.trms)
  clear ho hb HK1
  go_wp2_with fail
  refine (sAddPoly p f g L M w2 (HK2.out.g (by simp)) (HK2.out.g (by simp))).mono ?_
  rintro e w3 ⟨wv, rfl, ho, hb⟩
  have HK3 := Lib.hid ((HK2.out.on hb).add ho.trms)
  clear ho hb HK2
  obtain ⟨ok, hok⟩ : ∃ ok, ok = addOk p L M := ⟨_, rfl⟩
  have HOK := Lib.hid hok
  rw [← hok]
  clear hok
  have hbb : (ok != ok) = false := by cases ok <;> rfl
  go_wp2_with fail
  refine (acP hv wv (sumV p L M) w3 (HK3.out.g (by simp)) (HK3.out.g (by simp))).mono ?_
  rintro e w4 ⟨rfl, hb⟩
  have HK4 := Lib.hid (HK3.out.on hb)
  clear hb HK3
  cases ok
  · go_wp2_with fail
    refine (acP hv wv (sumV p L M) w4 (HK4.out.g (by simp)) (HK4.out.g (by simp))).mono ?_
    rintro e w5 ⟨rfl, hb⟩
    have HK5 := Lib.hid (HK4.out.on hb)
    clear hb HK4
    go_wp2_with fail
    go_ret
    exact ⟨rfl, HK5.out.low⟩
  · obtain ⟨N, hF⟩ := addF HOK.out.symm
    generalize sumV p L M = S at HK4 hF
    have HF := Lib.hid hF
    have hpb := isP_bd hF.hp
    have wp1 : IntKind.i64.wrap (p - 1) = p - 1 := IntWalk.i64_in _ (by omega)
    clear hF
    go_wp2_with fail
    refine (iAddPoly p g f M L w4 (HK4.out.g (by simp)) (HK4.out.g (by simp))).mono ?_
    rintro e w5 ⟨tv, rfl, ho, hb⟩
    rw [HF.out.tu] at ho
    have HK5 := Lib.hid ((HK4.out.on hb).add ho.trms)
    clear ho hb HK4
    go_wp2_with fail
    refine (iScalePoly p g M (p - 1) w5 (HK5.out.g (by simp))).mono ?_
    rintro e w6 ⟨mv, rfl, ho, hb⟩
    rw [HF.out.mi] at ho
    have HK6 := Lib.hid ((HK5.out.on hb).add ho.trms)
    clear ho hb HK5
    go_wp2_with fail
    refine (iAddPoly p hv mv S N w6 (HK6.out.g (by simp)) (HK6.out.g (by simp))).mono ?_
    rintro e w7 ⟨bv, rfl, ho, hb⟩
    rw [HF.out.ba] at ho
    rw [HF.out.bb]
    have HK7 := Lib.hid ((HK6.out.on hb).add ho.trms)
    clear ho hb HK6
    go_wp2_with fail
    refine (drawEvalPoly a' len' cap' w7 (HB'.out.below HK7.out.low)).mono ?_
    rintro e w8 ⟨p', f', L', x, y, z, rfl, hL', hr', hb⟩
    have HK8 := Lib.hid (PX.new (HK7.out.on hb) x y z)
    clear hr' hb HK7
    obtain ⟨X, hX⟩ : ∃ X, X = w8.heap.size := ⟨_, rfl⟩
    obtain ⟨W8, hW8⟩ : ∃ W, W = w8.alloc (Obj.cells #[.int .i64 x, .int .i64 y, .int .i64 z] 30) := ⟨_, rfl⟩
    rw [← hX, ← hW8] at HK8
    have HW8 := Lib.hid (And.intro hX hW8)
    clear hX hW8
    go_upto_region 12 with fail
    rw [← HW8.out.2, ← HW8.out.1]
    clear HW8
    go_wp2_with fail
    refine wp_loop_rounds 4 ?_
    rw [rounds_succ]
    have c0 := HK8.out.pt.c0
    have f0 := HK8.out.pt.f 0
    go_wp2_with fail
    refine (iRed p x _ HF.out.hp).mono ?_
    rintro e w9 ⟨rfl, rfl⟩
    have HK9 := Lib.hid (HK8.out.st (HK8.out.pt.s0 (x % p)))
    clear HK8
    go_wp2_with fail
    generalize W8.setCell ⟨X, 0, none⟩ (.int .i64 (x % p)) = W9 at *
    clear c0 f0
    rw [rounds_succ]
    have c1 := HK9.out.pt.c1
    have f1 := HK9.out.pt.f 1
    go_wp2_with fail
    refine (iRed p y _ HF.out.hp).mono ?_
    rintro e w10 ⟨rfl, rfl⟩
    have HK10 := Lib.hid (HK9.out.st (HK9.out.pt.s1 (y % p)))
    clear HK9
    go_wp2_with fail
    generalize W9.setCell ⟨X, 1, none⟩ (.int .i64 (y % p)) = W10 at *
    clear c1 f1
    rw [rounds_succ]
    have c2 := HK10.out.pt.c2
    have f2 := HK10.out.pt.f 2
    go_wp2_with fail
    refine (iRed p z _ HF.out.hp).mono ?_
    rintro e w11 ⟨rfl, rfl⟩
    have HK11 := Lib.hid (HK10.out.st (HK10.out.pt.s2 (z % p)))
    clear HK10
    go_wp2_with fail
    generalize W10.setCell ⟨X, 2, none⟩ (.int .i64 (z % p)) = W11 at *
    clear c2 f2
    rw [rounds_succ]
    have HE := Lib.hid (red3 HF.out.hp x y z)
    generalize x % p = x at *
    generalize y % p = y at *
    generalize z % p = z at *
    have HEv := Lib.hid (HF.out.ev x y z HE.out)
    have HDg := Lib.hid HF.out.dg
    have HI1 := Lib.hid (fun w' (hb : Below W11.heap.size W11 w') => iEvalPoly p x y z hv S w' ((HK11.out.on hb).g (by simp)))
    have HI2 := Lib.hid (fun w' (hb : Below W11.heap.size W11 w') => iEvalPoly p x y z f L w' ((HK11.out.on hb).g (by simp)))
    have HI3 := Lib.hid (fun w' (hb : Below W11.heap.size W11 w') => iEvalPoly p x y z g M w' ((HK11.out.on hb).g (by simp)))
    have HJ1 := Lib.hid (fun w' (hb : Below W11.heap.size W11 w') => iDegreeOf p hv S w' ((HK11.out.on hb).g (by simp)))
    have HJ2 := Lib.hid (fun w' (hb : Below W11.heap.size W11 w') => iDegreeOf p f L w' ((HK11.out.on hb).g (by simp)))
    have HJ3 := Lib.hid (fun w' (hb : Below W11.heap.size W11 w') => iDegreeOf p g M w' ((HK11.out.on hb).g (by simp)))
    have HP := Lib.hid (fun w' (hb : Below W11.heap.size W11 w') => (HK11.out.on hb).pt)
    have HA1 := Lib.hid (fun w' (hb : Below W11.heap.size W11 w') => acP tv hv S w' ((HK11.out.on hb).g (by simp)) ((HK11.out.on hb).g (by simp)))
    have HA2 := Lib.hid (fun w' (hb : Below W11.heap.size W11 w') => acP bv f L w' ((HK11.out.on hb).g (by simp)) ((HK11.out.on hb).g (by simp)))
    generalize evV p x y z S = es at *
    generalize evV p x y z L = el at *
    generalize evV p x y z M = em at *
    generalize degV p S = ds at *
    generalize degV p L = dl at *
    generalize degV p M = dm at *
    obtain ⟨dx, hdx, hmx⟩ : ∃ dx, ds ≤ dx ∧ ((dm ≤ dl ∧ dx = dl) ∨ (¬ dm ≤ dl ∧ dx = dm)) := by
      have := HDg.out
      by_cases h : dm ≤ dl
      · exact ⟨dl, by omega, .inl ⟨h, rfl⟩⟩
      · exact ⟨dm, by omega, .inr ⟨h, rfl⟩⟩
    have HMX := Lib.hid hmx
    have HDX := Lib.hid hdx
    clear hmx hdx
    go_upto_region 17 with fail
    refine wp_region_below (by kernel_rfl) (by kernel_rfl) ?_
    iterate 2 (with_reducible refine wpQuiet_yes ?_ ?_; (focus (kernel_rfl)); intro K hK; go_simp; refine ⟨_, fun _ _ => rfl, ?_⟩; with_reducible refine hK _ ?_; clear hK K)
    (with_reducible refine wpQuiet_yes ?_ ?_; (focus (kernel_rfl)); intro K hK; go_simp; refine ⟨(.bool true), ?_, ?_⟩; rotate_left; with_reducible refine hK _ ?_; clear hK K; rotate_left)
    · intro w' hw
      exact (HA1.out w' hw).mono fun e w'' ⟨he, h⟩ => ⟨he, hw.trans (h.mono hw.size)⟩
    iterate 6 (with_reducible refine wpQuiet_yes ?_ ?_; (focus (kernel_rfl)); intro K hK; go_simp; refine ⟨_, fun _ _ => rfl, ?_⟩; with_reducible refine hK _ ?_; clear hK K)
    (with_reducible refine wpQuiet_yes ?_ ?_; (focus (kernel_rfl)); intro K hK; go_simp; refine ⟨(.bool true), ?_, ?_⟩; rotate_left; with_reducible refine hK _ ?_; clear hK K; rotate_left)
    · intro w' hw
      exact (HA2.out w' hw).mono fun e w'' ⟨he, h⟩ => ⟨he, hw.trans (h.mono hw.size)⟩
    iterate 4 (with_reducible refine wpQuiet_yes ?_ ?_; (focus (kernel_rfl)); intro K hK; go_simp; refine ⟨_, fun _ _ => rfl, ?_⟩; with_reducible refine hK _ ?_; clear hK K)
    (with_reducible refine wpQuiet_yes ?_ ?_; (focus (kernel_rfl)); intro K hK; go_simp; refine ⟨(.agg #[.int .i64 x, .int .i64 y, .int .i64 z]), ?_, ?_⟩; rotate_left; with_reducible refine hK _ ?_; clear hK K; rotate_left)
    · intro w' hw
      obtain ⟨c0, c1, c2, _, _⟩ := HP.out w' hw
      simp only [c0, c1, c2, go_sem, Result.andThen, and_self]
    (with_reducible refine wpQuiet_yes ?_ ?_; (focus (kernel_rfl)); intro K hK; go_simp; refine ⟨(.int .i64 es), ?_, ?_⟩; rotate_left; with_reducible refine hK _ ?_; clear hK K; rotate_left)
    · intro w' hw
      exact (HI1.out w' hw).mono fun e w'' ⟨he, h⟩ => ⟨he, hw.trans (h.mono hw.size)⟩
    iterate 3 (with_reducible refine wpQuiet_yes ?_ ?_; (focus (kernel_rfl)); intro K hK; go_simp; refine ⟨_, fun _ _ => rfl, ?_⟩; with_reducible refine hK _ ?_; clear hK K)
    (with_reducible refine wpQuiet_yes ?_ ?_; (focus (kernel_rfl)); intro K hK; go_simp; refine ⟨(.agg #[.int .i64 x, .int .i64 y, .int .i64 z]), ?_, ?_⟩; rotate_left; with_reducible refine hK _ ?_; clear hK K; rotate_left)
    · intro w' hw
      obtain ⟨c0, c1, c2, _, _⟩ := HP.out w' hw
      simp only [c0, c1, c2, go_sem, Result.andThen, and_self]
    (with_reducible refine wpQuiet_yes ?_ ?_; (focus (kernel_rfl)); intro K hK; go_simp; refine ⟨(.int .i64 el), ?_, ?_⟩; rotate_left; with_reducible refine hK _ ?_; clear hK K; rotate_left)
    · intro w' hw
      exact (HI2.out w' hw).mono fun e w'' ⟨he, h⟩ => ⟨he, hw.trans (h.mono hw.size)⟩
    iterate 2 (with_reducible refine wpQuiet_yes ?_ ?_; (focus (kernel_rfl)); intro K hK; go_simp; refine ⟨_, fun _ _ => rfl, ?_⟩; with_reducible refine hK _ ?_; clear hK K)
    (with_reducible refine wpQuiet_yes ?_ ?_; (focus (kernel_rfl)); intro K hK; go_simp; refine ⟨(.agg #[.int .i64 x, .int .i64 y, .int .i64 z]), ?_, ?_⟩; rotate_left; with_reducible refine hK _ ?_; clear hK K; rotate_left)
    · intro w' hw
      obtain ⟨c0, c1, c2, _, _⟩ := HP.out w' hw
      simp only [c0, c1, c2, go_sem, Result.andThen, and_self]
    (with_reducible refine wpQuiet_yes ?_ ?_; (focus (kernel_rfl)); intro K hK; go_simp; refine ⟨(.int .i64 em), ?_, ?_⟩; rotate_left; with_reducible refine hK _ ?_; clear hK K; rotate_left)
    · intro w' hw
      exact (HI3.out w' hw).mono fun e w'' ⟨he, h⟩ => ⟨he, hw.trans (h.mono hw.size)⟩
    (with_reducible refine wpQuiet_yes ?_ ?_; (focus (kernel_rfl)); intro K hK; go_simp; refine ⟨(.int .i64 es), ?_, ?_⟩; rotate_left; with_reducible refine hK _ ?_; clear hK K; rotate_left)
    · intro w' hw
      rw [HEv.out]
      exact (iAdd p el em w').mono fun e w'' ⟨he, h⟩ => ⟨he, hw.trans (h.mono hw.size)⟩
    (with_reducible refine wpQuiet_yes ?_ ?_; (focus (kernel_rfl)); intro K hK; go_simp; refine ⟨(.bool true), ?_, ?_⟩; rotate_left; with_reducible refine hK _ ?_; clear hK K; rotate_left)
    · intro w' hw
      simp
    iterate 4 (with_reducible refine wpQuiet_yes ?_ ?_; (focus (kernel_rfl)); intro K hK; go_simp; refine ⟨_, fun _ _ => rfl, ?_⟩; with_reducible refine hK _ ?_; clear hK K)
    (with_reducible refine wpQuiet_yes ?_ ?_; (focus (kernel_rfl)); intro K hK; go_simp; refine ⟨(.int .i64 ds), ?_, ?_⟩; rotate_left; with_reducible refine hK _ ?_; clear hK K; rotate_left)
    · intro w' hw
      exact (HJ1.out w' hw).mono fun e w'' ⟨he, h⟩ => ⟨he, hw.trans (h.mono hw.size)⟩
    iterate 2 (with_reducible refine wpQuiet_yes ?_ ?_; (focus (kernel_rfl)); intro K hK; go_simp; refine ⟨_, fun _ _ => rfl, ?_⟩; with_reducible refine hK _ ?_; clear hK K)
    (with_reducible refine wpQuiet_yes ?_ ?_; (focus (kernel_rfl)); intro K hK; go_simp; refine ⟨(.int .i64 dl), ?_, ?_⟩; rotate_left; with_reducible refine hK _ ?_; clear hK K; rotate_left)
    · intro w' hw
      exact (HJ2.out w' hw).mono fun e w'' ⟨he, h⟩ => ⟨he, hw.trans (h.mono hw.size)⟩
    iterate 2 (with_reducible refine wpQuiet_yes ?_ ?_; (focus (kernel_rfl)); intro K hK; go_simp; refine ⟨_, fun _ _ => rfl, ?_⟩; with_reducible refine hK _ ?_; clear hK K)
    (with_reducible refine wpQuiet_yes ?_ ?_; (focus (kernel_rfl)); intro K hK; go_simp; refine ⟨(.int .i64 dm), ?_, ?_⟩; rotate_left; with_reducible refine hK _ ?_; clear hK K; rotate_left)
    · intro w' hw
      exact (HJ3.out w' hw).mono fun e w'' ⟨he, h⟩ => ⟨he, hw.trans (h.mono hw.size)⟩
    (with_reducible refine wpQuiet_yes ?_ ?_; (focus (kernel_rfl)); intro K hK; go_simp; refine ⟨(.int .i64 dx), ?_, ?_⟩; rotate_left; with_reducible refine hK _ ?_; clear hK K; rotate_left)
    · intro w' hw
      rcases HMX.out with ⟨h1, h2⟩ | ⟨h1, h2⟩
      · subst h2; simp; omega
      · subst h2; simp; omega
    (with_reducible refine wpQuiet_yes ?_ ?_; (focus (kernel_rfl)); intro K hK; go_simp; refine ⟨(.bool true), ?_, ?_⟩; rotate_left; with_reducible refine hK _ ?_; clear hK K; rotate_left)
    · intro w' hw
      simp [HDX.out]
    (with_reducible refine wpQuiet_yes ?_ ?_; (focus (kernel_rfl)); intro K hK; go_simp; refine ⟨_, fun _ _ => rfl, ?_⟩; with_reducible refine hK _ ?_; clear hK K)
    (with_reducible refine wpQuiet_yes ?_ ?_; (focus (kernel_rfl)); intro K hK; go_simp; refine ⟨_, fun _ _ => rfl, ?_⟩; with_reducible refine hK _ ?_; clear hK K)
    refine wpQuiet_nil fun w2 hb2 => ?_
    have HQ := Lib.hid ((HK11.out.on hb2).low)
    clear hb2
    simp only [Exit.then]
    go_wp2_with fail
    go_ret
    exact ⟨rfl, HQ.out⟩
set_option maxHeartbeats 2000000 in
theorem wAddPoly_long (a : Option Addr) (len cap : Nat) (a' : Option Addr) (len' cap' : Nat) (w : World) (h1 : len ≤ 9223372036854775807) (h2 : len' ≤ 9223372036854775807) (hl : ¬ (len ≤ 1048576 ∧ len' ≤ 1048576)) :
    Calls Try.prog 4 #[.slice a len cap, .slice a' len' cap'] w fun e w' => e = .returned (.bool true) ∧ Below w.heap.size w w' := by
  by_cases h : len ≤ 1048576
  · have hp : (len : Int) ≤ 1048576 := by omega
    have hq : (1048576 : Int) < (len' : Int) := by omega
    go_enter Try.func4, Try.ntmps4
    go_wp2_with fail
    go_ret
    exact ⟨rfl, Below.refl _ _⟩
  · have hp : (1048576 : Int) < (len : Int) := by omega
    go_enter Try.func4, Try.ntmps4
    go_wp2_with fail
    go_ret
    exact ⟨rfl, Below.refl _ _⟩
theorem wAddPoly (a : Option Addr) (len cap : Nat) (a' : Option Addr) (len' cap' : Nat) (w : World) (h : ByteRow w a len cap) (h' : ByteRow w a' len' cap') :
    Calls Try.prog 4 #[.slice a len cap, .slice a' len' cap'] w fun e w' => e = .returned (.bool true) ∧ Below w.heap.size w w' := by
  by_cases hl : len ≤ 1048576 ∧ len' ≤ 1048576
  · exact wAddPoly_in a len cap a' len' cap' w h h' hl.1 hl.2
  · exact wAddPoly_long a len cap a' len' cap' w (Nat.le_trans h.1 h.2.1) (Nat.le_trans h'.1 h'.2.1) hl
end Go.Proofs.Ytegkcfinklcglaa
