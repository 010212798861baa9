/-
  countBack of the program: the gates from the last one down, each one passing what it counts for on to the gates that it joins. Conditions: what the slice and the maker's cells hold is known.
-/
import Derived.Test.YtfpjflghgmcgbaaBd8
import Derived.Test.YtfpjflghgmcgbaaBd14
namespace Go.Proofs.Ytfpjflghgmcgbaa
open Go.RowKit Go.Shelf
attribute [local go_sem] Oper.semAt_some
/-- the state between rounds -/
def CbSt (B G n : Nat) (p : Int) (v v2 : Value) (L : List Gt) (w W3 : World) (pre : List (Fin L.length)) (wr : World) : Prop :=
  ∃ v', DmS wr G B v' p L.length (bkL L L.length (grS L) pre) ∧ wr.cell? ⟨n, 0, none⟩ = some (.pointer (some ⟨G, 0, none⟩)) ∧ Below B w wr ∧ Apt G G v w wr ∧ Moves v2 v' W3 ∧
    BSt p L.length (L.length + 1 + 4 * pre.length) (bkL L L.length (grS L) pre) ∧ L.length + 1 ≤ (bkL L L.length (grS L) pre).1.length ∧ W3.heap.size ≤ wr.heap.size
theorem cb_own {B G n : Nat} {p : Int} {v v2 : Value} {L : List Gt} {w W3 : World} (h3 : w.heap.size ≤ W3.heap.size) (hB : B ≤ w.heap.size) : OwnFrom W3.heap.size (fun pre X => CbSt B G n p v v2 L w W3 pre X) := fun pre X Y row hs hg hr => by
  obtain ⟨v', h1, h2, h3', h4, h5, h6, h7, h8⟩ := hs
  have hr' : ∀ r, row = some r → ∃ o : Obj, X.heap[r]? = some o ∧ o.isCells = false := fun r e => (hr r e).2
  exact ⟨v', h1.own hg hr', cell_kept h2 hg hr', ownFrom_below (β := Unit) hB (Nat.le_trans hB h3) () X Y row h3' hg hr, apt_own h4 h3'.size h3 hg (fun r e => (hr r e).1), h5, h6, h7, Nat.le_trans h8 hg.size⟩
set_option maxRecDepth 100000 in
set_option maxHeartbeats 16000000 in
theorem iCountBack (B G : Nat) (p : Int) (v : Value) (L : List Gt) (hv : circB p L = true) (g off cap : Nat) (w : World) (hBG : B ≤ G) (hg : g < B) (h : DmS w G B v p (-1) (L, List.replicate L.length (-1))) (hc : ∀ j : Nat, j < L.length → GAt w g (off + j * 3) (L.getD j default)) :
    Calls Try.prog 59 #[.pointer (some ⟨G, 0, none⟩), .slice (some ⟨g, off, none⟩) L.length cap] w fun e w' =>
      ∃ v', e = .returned (.tuple #[]) ∧ DmS w' G B v' p L.length (grB L) ∧ Below B w w' ∧ Apt G G v w w' ∧ Moves v v' w := by
  obtain ⟨hp, hl1, hl2, hall⟩ := circB_iff.1 hv
  have hgs := grS_st hv
  obtain ⟨n, hn⟩ : ∃ n, n = w.heap.size := ⟨_, rfl⟩
  obtain ⟨W, hW⟩ : ∃ W, W = w.alloc (.cells #[.pointer (some ⟨G, 0, none⟩)] 143) := ⟨_, rfl⟩
  have bW : Below n w W := by rw [hW, hn]; exact (by repeat (first | exact Below.refl _ _ | apply Below.drew | apply below_drewN | (refine Below.alloc ?_ (by first | omega | (simp <;> omega)) _)))
  have hs0 : W.heap.size = n + 1 := by rw [hW, hn]; simp
  have hGw : G < n := by rw [hn]; exact h.sh.lt
  have hv0 : v.ownBlock ≠ some n := by rw [hn]; exact h.old (Nat.le_refl _)
  have hv1 : v.ownBlock ≠ some (n + 1) := by rw [hn]; exact h.old (Nat.le_succ _)
  have r0 : W.cell? ⟨n, 0, none⟩ = some (.pointer (some ⟨G, 0, none⟩)) := by rw [hW, hn]; simp [go_sem]
  obtain ⟨q, hq⟩ : ∃ q, L.length = q + 1 := ⟨L.length - 1, by omega⟩
  have hq1 : (L.length : Int) - 1 = (q : Int) := by omega
  have hq60 : (q : Int) < 60 := by omega
  have hq0 : (0 : Int) ≤ q := by omega
  have HPO := Lib.hid (fun w' (hw : DmS w' G B v p (-1) (L, List.replicate L.length (-1))) => iPutOne B G p v (L, List.replicate L.length (-1)) w' (by show L.length ≤ 4000; omega) hBG hw)
  have HDW := Lib.hid (h.below (by rw [← hn]; exact bW))
  have HCw := Lib.hid hc
  have HAL := Lib.hid hall
  have HGS := Lib.hid hgs
  have HW := Lib.hid hW
  have HN := Lib.hid hn
  have HBW := Lib.hid bW
  have HQ := Lib.hid hq
  have HQ1 := Lib.hid hq1
  clear hW hn h hc hall hgs hp bW hv hq hq1
  refine (callsIn_wide (n := 6)).1 ?_
  refine callsIn_of_wp_marks Try.func59 rfl trivial ?_ rfl
  simp only [Try.ntmps59, List.size_toArray, List.length_cons, List.length_nil, Nat.reduceAdd, Nat.reduceSub, Array.replicate_succ, Array.replicate_zero, List.push_toArray, List.append_toArray, List.nil_append, List.cons_append]
  gi_wp2_with fail
  change Code.wpIn _ _ _ _ _ _ (w.alloc (.cells #[.pointer (some ⟨G, 0, none⟩)] 143))
  rw [← HW.out, ← HN.out]
  clear HW
  rename_i KK hKK
  refine wpIn_wide.2 ?_
  refine Go.wp_mono (Q := fun e a w => e = Exit.normal ∧ KK a w) ?_ (by rintro e a w ⟨rfl, h⟩; exact h)
  refine wp_region_seq [(0, true), (1, true), (3, true), (5, true), (6, true), (2, false), (4, false), (7, true)] (fun w' => w'.cell? ⟨n, 0, none⟩ = some (.pointer (some ⟨G, 0, none⟩))) (by kernel_rfl) (by kernel_rfl) rfl (by rintro c a d v w ⟨h, _⟩; cases h) r0 ?_
  iterate 5 (refine wpSeq_take (v := ?_) (List.getElem?_toArray.trans rfl) ?_ ?_; rotate_left; (intro w' hSw; (try dsimp only at hSw); go_simp; (try with_reducible rfl)); (try simp only [Act.put, List.setIfInBounds_toArray, List.set_cons_zero, List.set_cons_succ]))
  refine wpSeq_do (List.getElem?_toArray.trans rfl) (fun K hK => ?_)
  go_simp
  refine (iLast _ L.length _ q (by omega) HQ1.out _).mono ?_
  rintro e w' ⟨rfl, rfl⟩
  refine hK _ _ r0 ?_
  clear hK K
  refine wpSeq_do (List.getElem?_toArray.trans rfl) (fun K hK => ?_)
  go_simp
  refine (HPO.out _ (HDW.out.below (by repeat (first | exact Below.refl _ _ | apply Below.drew | apply below_drewN)))).mono ?_
  rintro e w2 ⟨v2, rfl, m1, m2, m3, m4⟩
  have a2 : Apt G G v W w2 := (Apt.of_below (Below.drew (Below.refl _ _))).trans m3 (.inl rfl) (by simp)
  have b2 : Below B w w2 := (HBW.out.mono (by omega)).trans ((Below.drew (Below.refl B W)).trans m2)
  have g2 : w2.cell? ⟨n, 0, none⟩ = some (.pointer (some ⟨G, 0, none⟩)) := a2.get (by omega) (by omega) (by omega) hv0 r0
  refine hK _ _ g2 ?_
  clear hK K
  (refine wpSeq_take (v := ?_) (List.getElem?_toArray.trans rfl) ?_ ?_; rotate_left; (intro w' hSw; (try dsimp only at hSw); go_simp; (try with_reducible rfl)); (try simp only [Act.put, List.setIfInBounds_toArray, List.set_cons_zero, List.set_cons_succ]))
  refine wpSeq_nil ?_
  simp only [Exit.then]
  have c2 := m1.sh.oth (2 + q) (by omega) (by omega)
  have f2 := m1.sh.fz (2 + q) (by omega) (by omega)
  have hql : q < L.length := by have := HQ.out; omega
  obtain ⟨w3, hw3⟩ : ∃ w3, w2.setCell ⟨G, 2 + q, none⟩ (.int .i64 L.length) = w3 := ⟨_, rfl⟩
  have d3 : DmS w3 G B v2 p L.length (grS L) := by
    have := DmS.set (j := q) m1 (by simpa using hql) (by omega) (L.length : Int)
    rw [hw3] at this
    have e : L.length - 1 = q := by have := HQ.out; omega
    unfold grS
    rw [e]
    exact this
  have hm4 : Moves v v2 w := Moves.trans (.inl rfl) (Moves.trans (.inl rfl) m4 (by simp)) (Nat.le_trans HBW.out.size (Nat.le_refl _))
  have b3 : Below B w w3 := by rw [← hw3]; exact b2.setCell hBG _
  have a3 : Apt G G v w w3 := by
    rw [← hw3]
    intro b h1 h2 h3 h4
    exact (Below.heap_setCell _ _ _ _ h2).trans ((((Apt.of_below (by rw [← HN.out]; exact HBW.out)).trans a2 (.inl rfl) HBW.out.size) b h1 h2 h3 h4))
  have g3 : w3.cell? ⟨n, 0, none⟩ = some (.pointer (some ⟨G, 0, none⟩)) := by rw [← hw3, World.cell?_setCell_other _ _ _ _ (addr_ne (by omega))]; exact g2
  have s3 : n + 1 ≤ w3.heap.size := by
    have e1 : W.drew.heap.size ≤ w2.heap.size := m2.size
    have e2 : w3.heap.size = w2.heap.size := by rw [← hw3]; simp
    have e3 : W.drew.heap.size = W.heap.size := by simp
    omega
  have hv2 : v2.ownBlock ≠ some n := m4.ne (by simp; omega) hv0
  have HD3 := Lib.hid (And.intro d3 (And.intro b3 (And.intro a3 (And.intro g3 hm4))))
  have HW3 := Lib.hid hw3
  clear m1 m2 m3 m4 a2 b2 hw3 d3 b3 a3 g3 hm4
  go_wp2_with fail
  rw [HW3.out]
  clear HW3 c2 f2 g2 HPO
  gi_wp2_with fail
  refine ⟨trivial, ?_⟩
  refine (back_val Fence.wide _ trivial rfl _ _ _ _).mono ?_
  rintro e w' ⟨rfl, rfl⟩
  gi_wp2_with fail
  obtain ⟨d3, b3, a3, g3, hm4⟩ := HD3.out
  obtain ⟨m, hm⟩ : ∃ m, w3.heap.size = m := ⟨_, rfl⟩
  obtain ⟨W3, hW3⟩ : ∃ W3, w3.alloc (.cells #[.slice (some ⟨g, off, none⟩) L.length cap] 24) = W3 := ⟨_, rfl⟩
  have hs3 : W3.heap.size = m + 1 := by rw [← hW3, ← hm]; simp
  have b33 : Below m w3 W3 := by rw [← hW3]; exact Below.alloc (Below.refl _ _) (Nat.le_of_eq hm.symm) _
  have cB : W3.cell? ⟨m, 0, none⟩ = some (.slice (some ⟨g, off, none⟩) L.length cap) := by
    rw [← hW3, ← hm]
    simp [go_sem]
  have hC3 : ∀ j : Nat, j < L.length → GAt W3 g (off + j * 3) (L.getD j default) := fun j hj => ((HCw.out j hj).below b3 hg).below b33 (by omega)
  have hwB : B ≤ w.heap.size := by have := HN.out; omega
  have hw3s : w.heap.size ≤ W3.heap.size := by have := HN.out; omega
  have hv2m : v2.ownBlock ≠ some m := by rw [← hm]; exact d3.old (Nat.le_refl _)
  have hgv2 : v2.ownBlock ≠ some g := fun e => by
    have := (World.ownsRow.lt d3.row g e).1
    omega
  have hI0 : CbSt B G n p v v2 L w W3 [] W3 :=
    ⟨v2, d3.below (by rw [hm]; exact b33), (b33.cell (p := ⟨n, 0, none⟩) (by show n < m; omega)).trans g3, b3.trans (b33.mono (by omega)), a3.trans (Apt.of_below (by rw [hm]; exact b33)) hm4 b3.size, .inl rfl, HGS.out, by show L.length + 1 ≤ (L ++ [(⟨1, 1, 0⟩ : Gt)]).length; simp, Nat.le_refl _⟩
  have hnm : n < m := by omega
  rw [hm, hW3]
  have HM4 := Lib.hid hm4
  clear hW3 hm d3 b3 a3 g3 HD3 b33 hm4
  refine wpIn_rangeFunc_ownH rfl (by omega) (gf := 135) (lb := #[.pointer (some ⟨m, 0, none⟩)]) rfl trivial (enters_of Try.func135 (by kernel_rfl) rfl)
    (back_stopsG Fence.wide (6 - 1) trivial rfl (by omega) m g off cap L hl2 W3 (by omega) (by omega) cB hC3) (fun h k => KpG.trans h k) (kpG_b (by omega) (by omega)) (Below.refl _ _) (fun _ => rfl)
    (fun pre Wc => CbSt B G n p v v2 L w W3 pre Wc)
    (fun _ _ _ => False)
    (cb_own hw3s hwB)
    (fun _ _ _ _ _ hs _ _ => hs)
    hI0
    (fun x a' Wc => ∃ Bx, m < Bx ∧ (Bx < Wc.heap.size ∧ GAt Wc Bx 0 (gAt L x.1)) ∧ (∃ u, Wc.cell? ⟨G, 0, none⟩ = some u ∧ u.ownBlock ≠ some Bx) ∧ a' = { tmps := #[.pointer (some ⟨G, 0, none⟩), .slice (some ⟨g, off, none⟩) L.length cap, .pointer (some ⟨n, 0, none⟩), undef, .int .i64 ((x.1 : Nat) : Int), .pointer (some ⟨Bx, 0, none⟩), undef, .pointer (some ⟨G, 0, none⟩), .slice (some ⟨g, off, none⟩) L.length cap, .int .i64 q, .pointer (some ⟨G, 0, none⟩), .int .i64 L.length, .pointer (some ⟨G, 0, none⟩), .pointer (some ⟨G, 2, none⟩), .pointer (some ⟨G, 2 + q, none⟩), .slice (some ⟨g, off, none⟩) L.length cap, .func (.func 135) #[] #[.pointer (some ⟨m, 0, none⟩)], .int .i64 ((x.1 : Nat) : Int), .agg #[.int .i64 (gAt L x.1).k, .int .i64 (gAt L x.1).a, .int .i64 (gAt L x.1).b], undef, undef, undef, undef, undef, undef, undef, undef, undef, undef, undef, undef, undef, undef, undef, undef, undef, undef, undef, undef, undef, undef, undef, undef, undef, undef, undef, undef, undef, undef, undef, undef, undef, undef], defers := [] })
    (fun x a' _ X Y row hs hg hr => by
      obtain ⟨Bx, h1, h2, ⟨u, hu, hne⟩, h3⟩ := hs
      exact ⟨Bx, h1, gat_own Bx (gAt L x.1) () X Y row h2 hg (fun r e => (hr r e).2), ⟨u, cell_kept hu hg (fun r e => (hr r e).2), hne⟩, h3⟩)
    ?assign ?body ?done ?stop
  case assign =>
    rintro l pre x Wc K ⟨v', s1, s2, s3, s4, s5, s6, s7, s8⟩ hK
    simp only [encG]
    gi_wp2
    have b1 : Below Wc.heap.size Wc (Wc.alloc (Obj.cells #[.int .i64 (gAt L x.1).k, .int .i64 (gAt L x.1).a, .int .i64 (gAt L x.1).b] 99)) := Below.alloc (Below.refl _ _) (Nat.le_refl _) _
    have s1' := s1.below b1
    exact hK _ _ ((KeepsOthers.alloc _ _).from _) (KpG.of_below b1 (by omega) (by omega))
      ⟨v', s1', (b1.cell (p := ⟨n, 0, none⟩) (by show n < _; omega)).trans s2, s3.trans (b1.mono (by omega)), s4.trans (Apt.of_below b1) (HM4.out.trans s5 hw3s) s3.size, s5, s6, s7, Nat.le_trans s8 b1.size⟩
      ⟨Wc.heap.size, by omega, ⟨by simp, by refine ⟨?_, ?_, ?_⟩ <;> simp [go_sem]⟩, ⟨v', s1'.sh.c0, s1.old (Nat.le_refl _)⟩, rfl⟩
  case body =>
    rintro l pre x a' Wc hl ⟨r, hr⟩ ⟨v', s1, s2, s3, s4, s5, s6, s7, s8⟩ ⟨Bx, hBx, ⟨hBl, hG⟩, ⟨u, hu, hune⟩, rfl⟩ hlt
    obtain ⟨i, hil⟩ := x
    have hil : i < L.length := hil
    have hi60 : (i : Int) < 60 := by omega
    have hi0 : (0 : Int) ≤ i := by omega
    have huv : v'.ownBlock ≠ some Bx := by
      have e := s1.sh.c0.symm.trans hu
      injection e with e
      rw [e]; exact hune
    have hx0 := HAL.out i hil
    obtain ⟨y, hy⟩ : ∃ y, gAt L i = y := ⟨_, rfl⟩
    simp only [hy] at hG ⊢
    rw [hy] at hx0
    have HS := Lib.hid (bkL_snoc L L.length (grS L) pre ⟨i, hil⟩)
    obtain ⟨t, ht⟩ : ∃ t, t = bkL L L.length (grS L) pre := ⟨_, rfl⟩
    rw [← ht] at s1 s6 s7 HS
    have hst := bckS_st (one := (L.length : Int)) HAL.out hil s6 (by omega)
    have HST := Lib.hid hst
    have HY := Lib.hid hy
    have HS1 := Lib.hid s1
    have HS4 := Lib.hid (And.intro s3 (And.intro s4 s5))
    have HS6 := Lib.hid s6
    have hvn : v'.ownBlock ≠ some n := s5.ne (by omega) hv2
    have hvm : v'.ownBlock ≠ some m := s5.ne (by omega) hv2m
    have hvg : v'.ownBlock ≠ some g := fun e => by
      have := (World.ownsRow.lt s1.row g e).1
      omega
    obtain ⟨c0, c1, c2⟩ := hG
    clear hy ht hst s1 s3 s4 s6 hu hune
    gi_wp2_with fail
    refine ⟨trivial, ?_⟩
    cases hj : joinsB y
    · have HJ := Lib.hid hj
      have HE := Lib.hid (show bkL L L.length (grS L) (pre ++ [⟨i, hil⟩]) = t by rw [HS.out]; unfold bckS; rw [HY.out, if_neg (by rw [hj]; simp)])
      clear hj
      refine (CallsIn.inRound l (callsIn_wide.2 (iJoins_is false y.k y.a y.b HJ.out _))).mono ?_
      rintro e W5 ⟨rfl, hb5⟩
      have hz := hb5.size
      have HR := Lib.hid (show CbSt B G n p v v2 L w W3 (pre ++ [⟨i, hil⟩]) W5 from
        ⟨v', by rw [HE.out]; exact HS1.out.below hb5, (hb5.cell (p := ⟨n, 0, none⟩) (by show n < _; omega)).trans s2, HS4.out.1.trans (hb5.mono (by omega)), HS4.out.2.1.trans (Apt.of_below hb5) (HM4.out.trans s5 hw3s) HS4.out.1.size, s5,
          by rw [HE.out]; exact HS6.out.more (by simp; omega), by rw [HE.out]; exact s7, by omega⟩)
      clear c0 c1 c2 s2
      gi_wp2
      exact ⟨(keeps_below hb5).from _, KpG.of_below hb5 (by omega) (by omega), HR.out⟩
    · obtain ⟨yk, ya, yb⟩ := y
      have hcs := joins_ok HAL.out hil (by rw [HY.out]; exact hj)
      rw [HY.out] at hcs
      obtain ⟨_, ha, hb⟩ := hcs
      simp only at ha hb c0 c1 c2
      obtain ⟨ja, rfl⟩ := Int.eq_ofNat_of_zero_le ha.1
      obtain ⟨jb, rfl⟩ := Int.eq_ofNat_of_zero_le hb.1
      have hja : ja < i := by omega
      have hjb : jb < i := by omega
      have ja60 : (ja : Int) < 60 := by omega
      have jb60 : (jb : Int) < 60 := by omega
      have ja0 : (0 : Int) ≤ ja := by omega
      have jb0 : (0 : Int) ≤ jb := by omega
      obtain ⟨k5, hk5⟩ : ∃ k5, k5 = t.2.getD i 0 := ⟨_, rfl⟩
      obtain ⟨z1, hz1⟩ : ∃ z1, z1 = pasB (L.length : Int) yk k5 jb ja t := ⟨_, rfl⟩
      have hp1 := pasB_st (one := (L.length : Int)) (kd := yk) (k := k5) (o := (jb : Int)) (j := ja) HS6.out (by omega) (by rw [hk5]; exact (HS6.out.lo i hil).2) (by omega)
      rw [← hz1] at hp1
      have hlen := HS6.out.len
      have hmx := HS6.out.max
      have hlen1 := hp1.1.len
      have hmx1 := hp1.1.max
      have hklo : -1 ≤ k5 := by rw [hk5]; exact (HS6.out.lo i hil).1
      have HE := Lib.hid (show bkL L L.length (grS L) (pre ++ [⟨i, hil⟩]) = pasB (L.length : Int) yk k5 ja jb z1 by
        rw [HS.out]; unfold bckS; rw [HY.out, if_pos hj, hz1, hk5]; rfl)
      have HP1 := Lib.hid (fun W' (hw : DmS W' G B v' p L.length t) => iPassG B G p L.length yk k5 jb ja v' t W' hklo (HS6.out.lo ja (by omega)).1 (by omega) (by omega) (by omega) hBG hw)
      have HP2 := Lib.hid (fun v1 W' (hw : DmS W' G B v1 p L.length z1) => iPassG B G p L.length yk k5 ja jb v1 z1 W' hklo (hp1.1.lo jb (by omega)).1 (by omega) (by omega) (by omega) hBG hw)
      rw [← hz1] at HP1
      have HJ := Lib.hid hj
      have HK5 := Lib.hid hk5
      clear hj ha hb hp1 hlen1 hmx1 hz1 hklo hk5
      refine (CallsIn.inRound l (callsIn_wide.2 (iJoins_is true yk ja jb HJ.out _))).mono ?_
      rintro e W5 ⟨rfl, hb5⟩
      have hz5 := hb5.size
      have d5 := HS1.out.below hb5
      have x0 := (hb5.cell (p := ⟨Bx, 0, none⟩) hBl).trans c0
      have x1 := (hb5.cell (p := ⟨Bx, 1, none⟩) hBl).trans c1
      have x2 := (hb5.cell (p := ⟨Bx, 2, none⟩) hBl).trans c2
      have xn := (hb5.cell (p := ⟨n, 0, none⟩) (by show n < _; omega)).trans s2
      have e5 : W5.cell? ⟨G, 2 + i, none⟩ = some (.int .i64 k5) := by
        rw [d5.sh.oth (2 + i) (by omega) (by omega), HK5.out]
        exact congrArg some (csD_at (by omega) (by omega))
      have HD5 := Lib.hid d5
      have HB5 := Lib.hid hb5
      clear d5 hb5 c0 c1 c2 s2
      gi_wp2_with fail
      rename_i KK hKK
      refine Go.wpIn_mono (Q := fun e a w => e = Exit.normal ∧ KK a w) ?_ (by rintro e a w ⟨rfl, h⟩; exact h)
      refine wpIn_region_seq_round [(0, true), (1, true), (2, true), (3, true), (4, true), (5, true), (6, true), (7, true), (8, true), (9, true), (10, true), (11, true)] (fun w' => w'.cell? ⟨n, 0, none⟩ = some (.pointer (some ⟨G, 0, none⟩)) ∧ w'.cell? ⟨Bx, 0, none⟩ = some (.int .i64 yk) ∧ w'.cell? ⟨Bx, 1, none⟩ = some (.int .i64 ja) ∧ w'.cell? ⟨Bx, 2, none⟩ = some (.int .i64 jb)) (by kernel_rfl) (by kernel_rfl) (by kernel_rfl) rfl (by rintro ⟨a, w, h, _⟩; cases h) (by rintro c a d v w ⟨h, _⟩; cases h) ⟨xn, x0, x1, x2⟩ ?_
      iterate 12 (refine wpSeq_take (v := ?_) (List.getElem?_toArray.trans rfl) ?_ ?_; rotate_left; (intro w' hSw; (try dsimp only at hSw); go_simp; (try with_reducible rfl)); (try simp only [Act.put, List.setIfInBounds_toArray, List.set_cons_zero, List.set_cons_succ]))
      refine wpSeq_nil ?_
      simp only [Exit.then]
      go_wp2_with fail
      refine (HP1.out _ (HD5.out.below (by repeat (first | exact Below.refl _ _ | apply Below.drew | apply below_drewN)))).mono ?_
      rintro e w6 ⟨rfl, v6, m1, m2, m3, m4⟩
      have q3 : Apt G G v' W5 w6 := (Apt.of_below (Below.drew (Below.refl _ _))).trans m3 (.inl rfl) (by simp)
      have q4 : Moves v' v6 W5 := Moves.trans (.inl rfl) m4 (by simp)
      have q2 : Below B W5 w6 := (Below.drew (Below.refl B W5)).trans m2
      have yn : w6.cell? ⟨n, 0, none⟩ = some (.pointer (some ⟨G, 0, none⟩)) := q3.get (by omega) (by omega) (by omega) hvn xn
      have y0 : w6.cell? ⟨Bx, 0, none⟩ = some (.int .i64 yk) := q3.get (by omega) (by omega) (by omega) huv x0
      have y1 : w6.cell? ⟨Bx, 1, none⟩ = some (.int .i64 ja) := q3.get (by omega) (by omega) (by omega) huv x1
      have y2 : w6.cell? ⟨Bx, 2, none⟩ = some (.int .i64 jb) := q3.get (by omega) (by omega) (by omega) huv x2
      have hz6 := q2.size
      have HD6 := Lib.hid m1
      have HB6 := Lib.hid (And.intro q2 (And.intro q3 q4))
      clear m1 m2 m3 m4 q2 q3 q4 x0 x1 x2 xn e5
      go_wp2_with fail
      gi_wp2_with fail
      rename_i KK hKK
      refine Go.wpIn_mono (Q := fun e a w => e = Exit.normal ∧ KK .normal a w) ?_ (by rintro e a w ⟨rfl, h⟩; exact h)
      refine wpIn_region_seq_round [(0, true), (1, true), (2, true), (3, true), (4, true), (5, true), (6, true), (7, true), (8, true), (9, true), (10, true), (11, true)] (fun w' => w'.cell? ⟨n, 0, none⟩ = some (.pointer (some ⟨G, 0, none⟩)) ∧ w'.cell? ⟨Bx, 0, none⟩ = some (.int .i64 yk) ∧ w'.cell? ⟨Bx, 1, none⟩ = some (.int .i64 ja) ∧ w'.cell? ⟨Bx, 2, none⟩ = some (.int .i64 jb)) (by kernel_rfl) (by kernel_rfl) (by kernel_rfl) rfl (by rintro ⟨a, w, h, _⟩; cases h) (by rintro c a d v w ⟨h, _⟩; cases h) ⟨yn, y0, y1, y2⟩ ?_
      iterate 12 (refine wpSeq_take (v := ?_) (List.getElem?_toArray.trans rfl) ?_ ?_; rotate_left; (intro w' hSw; (try dsimp only at hSw); go_simp; (try with_reducible rfl)); (try simp only [Act.put, List.setIfInBounds_toArray, List.set_cons_zero, List.set_cons_succ]))
      refine wpSeq_nil ?_
      simp only [Exit.then]
      go_wp2_with fail
      refine (HP2.out v6 _ (HD6.out.below (by repeat (first | exact Below.refl _ _ | apply Below.drew | apply below_drewN)))).mono ?_
      rintro e w7 ⟨rfl, v7, m1, m2, m3, m4⟩
      have q3 : Apt G G v6 w6 w7 := (Apt.of_below (Below.drew (Below.refl _ _))).trans m3 (.inl rfl) (by simp)
      have q4 : Moves v6 v7 w6 := Moves.trans (.inl rfl) m4 (by simp)
      have q2 : Below B w6 w7 := (Below.drew (Below.refl B w6)).trans m2
      have u2 : Below B W5 w7 := HB6.out.1.trans q2
      have u4 : Moves v' v7 W5 := HB6.out.2.2.trans q4 hz6
      have u3 : Apt G G v' W5 w7 := HB6.out.2.1.trans q3 HB6.out.2.2 hz6
      have t2 : Below B Wc w7 := (HB5.out.mono (by omega)).trans u2
      have t3 : Apt G G v' Wc w7 := (Apt.of_below HB5.out).trans u3 (.inl rfl) hz5
      have t4 : Moves v' v7 Wc := Moves.trans (.inl rfl) u4 hz5
      have zn : w7.cell? ⟨n, 0, none⟩ = some (.pointer (some ⟨G, 0, none⟩)) := q3.get (by omega) (by omega) (by omega) (HB6.out.2.2.ne (by omega) hvn) yn
      have hz7 := t2.size
      have HR := Lib.hid (show KeepsFrom W3.heap.size Wc w7 ∧ KpG m g Wc w7 ∧ CbSt B G n p v v2 L w W3 (pre ++ [⟨i, hil⟩]) w7 from
        ⟨HS1.out.keeps t3 hz7, ⟨hz7, t3 m (by omega) (by omega) (by omega) hvm, t3 g (by omega) (by omega) (by omega) hvg⟩,
          v7, by rw [HE.out]; exact m1, zn, HS4.out.1.trans t2, HS4.out.2.1.trans t3 (HM4.out.trans s5 hw3s) HS4.out.1.size, s5.trans t4 s8,
          by rw [HS.out]; have := HST.out.1; exact this.more (by simp; omega), by rw [HS.out]; have := HST.out.2; omega, by omega⟩)
      clear m1 m2 m3 m4 q2 q3 q4 u2 u3 u4 t2 t3 t4 y0 y1 y2 yn
      go_wp2_with fail
      exact HR.out
  case done =>
    rintro D ys Wc hD rfl ⟨v', s1, s2, s3, s4, s5, s6, s7, s8⟩ hKD
    rw [bkL_all] at s1
    have hro : ∀ r, some D = some r → W3.heap.size ≤ r ∧ ∃ o : Obj, Wc.heap[r]? = some o ∧ o.isCells = false := fun r e => by cases e; exact ⟨hD, _, hKD, rfl⟩
    have hgr := grownBy_putObj' Wc D (.deferred none)
    have t1 := s1.own hgr (fun r e => (hro r e).2)
    have t2 : Below B w (Wc.putObj D (.deferred none)) := s3.trans (belowK_b (w := w) (by omega) Wc D _ _ (by omega) hKD rfl rfl)
    have t3 : Apt G G v w (Wc.putObj D (.deferred none)) := apt_own s4 s3.size hw3s hgr (fun r e => (hro r e).1)
    simp only [Exit.inBlock]
    refine ⟨by simp, .inl ⟨_, _, rfl, run_takeDeferred hKD, ?_⟩⟩
    exact ⟨_, results_none rfl _ _ _, v', rfl, t1, t2, t3, HM4.out.trans s5 hw3s⟩
  case stop =>
    rintro D c pre Wc _ _ h _
    exact h.elim
end Go.Proofs.Ytfpjflghgmcgbaa
