/-
  The walk of the law FnJoin: it returns true. Conditions: the bytes can be read.
-/
import Derived.Test.YtgbjchidnnmifaaDrj
import Derived.Test.YtgbjchidnnmifaaSame
import Derived.Test.YtgbjchidnnmifaaSameG
import Derived.Test.YtgbjchidnnmifaaPnt
import Derived.Test.YtgbjchidnnmifaaJoM
namespace Go.Proofs.Ytgbjchidnnmifaa
open Go.RowKit
/-- an operation whose guard says yes goes as one without a guard -/
theorem wpList_guarded {P : Program} {ops : Array Oper} {rest : List Oper} {o : Oper} {a : Act} {w : World} {Q : Exit → Act → World → Prop} (hw : Region.wanted o (yielded ops a.tmps) = true)
    (h : wpList P ops Q ({ o with guard := none } :: rest) a w) : wpList P ops Q (o :: rest) a w := by
  obtain ⟨d, op, ty, ps, af, gd⟩ := o
  unfold wpList at h ⊢
  rw [if_pos (by simp [Region.wanted])] at h
  rw [if_pos hw]
  exact h
theorem ints_some {w : World} {v : Value} {L : List Int} (h : Ints w v L) (h0 : 0 < L.length) : ∃ g off cap, v = .slice (some ⟨g, off, none⟩) L.length cap ∧ g < w.heap.size ∧ ∀ j : Nat, j < L.length → w.cell? ⟨g, off + j, none⟩ = some (.int .i64 (L.getD j 0)) := by
  obtain ⟨_, a, cap, rfl, h2⟩ := h
  rcases h2 with rfl | ⟨g, off, rfl, hg, hc⟩
  · simp at h0
  · exact ⟨g, off, cap, rfl, hg, hc⟩
theorem ints_read {w : World} {g off : Nat} {L : List Int} (hc : ∀ j : Nat, j < L.length → w.cell? ⟨g, off + j, none⟩ = some (.int .i64 (L.getD j 0))) :
    ∀ (j : Nat) (u : Value), (L.map (Value.int .i64))[j]? = some u → w.cell? ((⟨g, off, none⟩ : Addr).add j) = some u := by
  intro j u hu
  have hj : j < L.length := by
    rcases Nat.lt_or_ge j L.length with h | h
    · exact h
    · rw [List.getElem?_eq_none (by simpa using h)] at hu; cases hu
  rw [addr_add, hc j hj]
  simp [hj] at hu
  rw [← hu]
  simp [List.getD_eq_getElem?_getD, hj]
theorem ints_cell {L : List Int} : ∀ u : Value, u ∈ L.map (Value.int .i64) → u.oneCell' = true := by
  intro u hu
  obtain ⟨n, _, rfl⟩ := List.mem_map.1 hu
  rfl
theorem RowI.join {w : World} {B n : Nat} {v : Value} {A N : List Int} (hn : n = N.length) (h : w.ownsRow B 3 1 v (A.length + n) (A.map (Value.int .i64) ++ N.map (Value.int .i64))) : RowI w B v (A ++ N) := by
  subst hn
  unfold RowI
  rw [List.length_append, List.map_append]
  exact h
theorem keep2 {W w1 : World} {g h i j : Nat} {a b : Value} (hb : Below W.heap.size W w1) (hg : g < W.heap.size) (hh : h < W.heap.size)
    (hc : W.cell? ⟨g, i, none⟩ = some a ∧ W.cell? ⟨h, j, none⟩ = some b) : w1.cell? ⟨g, i, none⟩ = some a ∧ w1.cell? ⟨h, j, none⟩ = some b :=
  ⟨by rw [hb.cell (p := ⟨g, i, none⟩) hg]; exact hc.1, by rw [hb.cell (p := ⟨h, j, none⟩) hh]; exact hc.2⟩
/-- what is kept from the evaluations on: the circuits, and three slices of values -/
structure VSt (w0 : World) (v u vE : Value) (L M E : List Gt) (ga oa gb ob ge oe : Nat) (V1 V2 V3 : List Int) (wr : World) : Prop where
  gL : Gats wr v L
  gM : Gats wr u M
  gE : Gats wr vE E
  c1 : ∀ j : Nat, j < V1.length → wr.cell? ⟨ga, oa + j, none⟩ = some (.int .i64 (V1.getD j 0))
  c2 : ∀ j : Nat, j < V2.length → wr.cell? ⟨gb, ob + j, none⟩ = some (.int .i64 (V2.getD j 0))
  c3 : ∀ j : Nat, j < V3.length → wr.cell? ⟨ge, oe + j, none⟩ = some (.int .i64 (V3.getD j 0))
  l1 : ga < wr.heap.size
  l2 : gb < wr.heap.size
  l3 : ge < wr.heap.size
  low : Below w0.heap.size w0 wr
theorem VSt.on {w0 wr w' : World} {v u vE : Value} {L M E : List Gt} {ga oa gb ob ge oe : Nat} {V1 V2 V3 : List Int} (h : VSt w0 v u vE L M E ga oa gb ob ge oe V1 V2 V3 wr) (hb : Below wr.heap.size wr w') : VSt w0 v u vE L M E ga oa gb ob ge oe V1 V2 V3 w' :=
  ⟨Gats.below h.gL hb, Gats.below h.gM hb, Gats.below h.gE hb, fun j hj => by rw [hb.cell (p := ⟨ga, oa + j, none⟩) h.l1]; exact h.c1 j hj, fun j hj => by rw [hb.cell (p := ⟨gb, ob + j, none⟩) h.l2]; exact h.c2 j hj,
   fun j hj => by rw [hb.cell (p := ⟨ge, oe + j, none⟩) h.l3]; exact h.c3 j hj, Nat.lt_of_lt_of_le h.l1 hb.size, Nat.lt_of_lt_of_le h.l2 hb.size, Nat.lt_of_lt_of_le h.l3 hb.size, h.low.trans (hb.mono h.low.size)⟩
set_option maxRecDepth 100000 in
set_option maxHeartbeats 16000000 in
theorem wJoin_in (a : Option Addr) (len cap : Nat) (a' : Option Addr) (len' cap' : Nat) (w : World) (h : ByteRow w a len cap) (h' : ByteRow w a' len' cap') (hl : len ≤ 1048576) (hl' : len' ≤ 1048576) :
    Calls Try.prog 5 #[.slice a len cap, .slice a' len' cap'] w fun e w' => e = .returned (.bool true) ∧ Below w.heap.size w w' := by
  obtain ⟨i0, hi, hz0, hz1, hz2⟩ := info_parts infoInt
  have hh := Lib.hid h
  have hh' := Lib.hid h'
  have hlp : (len : Int) ≤ 1048576 := by omega
  have hlp' : (len' : Int) ≤ 1048576 := by omega
  clear h h'
  go_enter Try.func5, Try.ntmps5
  go_wp2_with fail
  refine (drawJoin a len cap w hh.out).mono ?_
  rintro e w1 ⟨p, v, u, L, M, k, rfl, hL, hM, hO1, hO2, hb⟩
  have HG := Lib.hid hO1.gats
  have HU := Lib.hid hO2.gats
  have HB := Lib.hid hb
  clear hO1 hO2 hb
  go_wp2_with fail
  refine (iJoinCircuits p _ _ L M k _ HG.out HU.out).mono ?_
  rintro e w2 ⟨vE, rfl, hE, hb2⟩
  have HG2 := Lib.hid (Gats.below HG.out hb2)
  have HU2 := Lib.hid (Gats.below HU.out hb2)
  have HE2 := Lib.hid hE.gats
  have HB2 := Lib.hid (HB.out.trans (hb2.mono HB.out.size))
  clear hb2 hE HG HU HB
  go_wp2_with fail
  refine (sJoinCircuits p _ _ L M k _ HG2.out HU2.out).mono ?_
  rintro e w3 ⟨vW, rfl, hW, hb3⟩
  have HG3 := Lib.hid (Gats.below HG2.out hb3)
  have HU3 := Lib.hid (Gats.below HU2.out hb3)
  have HE3 := Lib.hid (Gats.below HE2.out hb3)
  have HW3 := Lib.hid hW.gats
  have HB3 := Lib.hid (HB2.out.trans (hb3.mono HB2.out.size))
  clear hb3 hW HG2 HU2 HE2 HB2
  go_wp2_with fail
  refine (sameGats _ _ _ _ HE3.out HW3.out).mono ?_
  rintro e w4 ⟨rfl, hd4⟩
  have hb4 := hd4.below w3.heap.size
  have HG4 := Lib.hid (Gats.below HG3.out hb4)
  have HU4 := Lib.hid (Gats.below HU3.out hb4)
  have HE4 := Lib.hid (Gats.below HE3.out hb4)
  have HW4 := Lib.hid (Gats.below HW3.out hb4)
  have HB4 := Lib.hid (HB3.out.trans (hb4.mono HB3.out.size))
  clear hb4 hd4 HG3 HU3 HE3 HW3 HB3
  cases hj : joinB p L M k
  · go_wp2_with fail
    refine (sameGats _ _ _ _ HE4.out HW4.out).mono ?_
    rintro e w5 ⟨rfl, hd5⟩
    have HB5 := Lib.hid (HB4.out.trans (hd5.below w.heap.size))
    clear hd5
    go_wp2_with fail
    go_ret
    exact ⟨rfl, HB5.out⟩
  · obtain ⟨hcL, hcM, hk, hlm⟩ := joinB_iff.1 hj
    have hV : joinV p L M k = joinL L M k := by simp [joinV, hj]
    rw [hV] at HE4
    have hcJ : circB p (joinL L M k) = true := by rw [joinL_circ hcL hcM hk, hj]
    obtain ⟨hp, l1, l2, _⟩ := circB_iff.1 hcL
    obtain ⟨_, m1, m2, _⟩ := circB_iff.1 hcM
    have HCL := Lib.hid hcL
    have HCM := Lib.hid hcM
    have HCJ := Lib.hid hcJ
    have HP := Lib.hid hp
    have HK := Lib.hid hk
    obtain ⟨d1, hd1⟩ : ∃ d, depV p L = d := ⟨_, rfl⟩
    obtain ⟨d2, hd2⟩ : ∃ d, depV p M = d := ⟨_, rfl⟩
    obtain ⟨dj, hdj⟩ : ∃ d, depV p (joinL L M k) = d := ⟨_, rfl⟩
    have D1 := Lib.hid hd1
    have D2 := Lib.hid hd2
    have DJ := Lib.hid hdj
    have HDJ := Lib.hid (show dj = 1 + max d1 d2 by rw [← hdj, ← hd1, ← hd2]; exact dep_join hcL hcM hk hcJ)
    have bd1 : 0 ≤ d1 ∧ d1 ≤ 60 := by
      have := depL_bd L L.length (L.length - 1)
      rw [← hd1]; simp only [depV, hcL, if_true]; omega
    have bd2 : 0 ≤ d2 ∧ d2 ≤ 60 := by
      have := depL_bd M M.length (M.length - 1)
      rw [← hd2]; simp only [depV, hcM, if_true]; omega
    obtain ⟨bd1, bd1'⟩ := bd1
    obtain ⟨bd2, bd2'⟩ := bd2
    clear hj hV hcL hcM hcJ hp hk HW4 hd1 hd2 hdj
    go_wp2_with fail
    refine (acPoint_any p HP.out a' len' cap' _ (hh'.out.below HB4.out)).mono ?_
    rintro e w5 ⟨x, y, z, rfl, he3, hb5⟩
    have HE3 := Lib.hid he3
    obtain ⟨W6, hW6⟩ : ∃ W, W = w5.alloc (Obj.cells #[.int .i64 x, .int .i64 y, .int .i64 z] 25) := ⟨_, rfl⟩
    have b6 : Below w4.heap.size w4 W6 := by rw [hW6]; exact Below.alloc hb5 hb5.size _
    have P6 : PtAt W6 w5.heap.size x y z := by rw [hW6]; refine ⟨?_, ?_, ?_⟩ <;> simp [go_sem]
    have hA6 : w5.heap.size < W6.heap.size := by rw [hW6]; simp
    obtain ⟨AB, hA⟩ : ∃ A, A = w5.heap.size := ⟨_, rfl⟩
    rw [← hA] at P6 hA6
    have HA := Lib.hid hA
    have HW6 := Lib.hid hW6
    have HG6 := Lib.hid (Gats.below HG4.out b6)
    have HU6 := Lib.hid (Gats.below HU4.out b6)
    have HE6 := Lib.hid (Gats.below HE4.out b6)
    have HB6 := Lib.hid (HB4.out.trans (b6.mono HB4.out.size))
    obtain ⟨c0, c1, c2⟩ := P6
    have EL := Lib.hid (show evV2 p x y z L = evL p x y z L L.length by simp [evV2, HCL.out, HE3.out])
    have EM := Lib.hid (show evV2 p x y z M = evL p x y z M M.length by simp [evV2, HCM.out, HE3.out])
    have EJ := Lib.hid (show evV2 p x y z (joinL L M k) = evL p x y z L L.length ++ evL p x y z M M.length ++
      [if k = 2 then ((evL p x y z L L.length).getD (L.length - 1) 0 + (evL p x y z M M.length).getD (M.length - 1) 0) % p
        else ((evL p x y z L L.length).getD (L.length - 1) 0 * (evL p x y z M M.length).getD (M.length - 1) 0) % p] by
      rw [← ev_join HCL.out HCM.out HK.out]; simp [evV2, HCJ.out, HE3.out])
    clear hb5 he3 hW6 b6 hA HG4 HU4 HE4 HB4
    go_wp2_with fail
    rw [← HW6.out, ← HA.out]
    have hl1 := evL_len p x y z L L.length
    have hl2 := evL_len p x y z M M.length
    have HP6 := Lib.hid (show PtAt W6 AB x y z from ⟨c0, c1, c2⟩)
    have HBD1 := evL_bd HCL.out HE3.out L.length (Nat.le_refl _) (L.length - 1) (by omega)
    have HBD2 := evL_bd HCM.out HE3.out M.length (Nat.le_refl _) (M.length - 1) (by omega)
    obtain ⟨V1, hV1⟩ : ∃ V, V = evL p x y z L L.length := ⟨_, rfl⟩
    obtain ⟨V2, hV2⟩ : ∃ V, V = evL p x y z M M.length := ⟨_, rfl⟩
    rw [← hV1] at hl1 HBD1 EL EJ
    rw [← hV2] at hl2 HBD2 EM EJ
    obtain ⟨na, hna⟩ : ∃ n, n = L.length - 1 := ⟨_, rfl⟩
    obtain ⟨nb, hnb⟩ : ∃ n, n = M.length - 1 := ⟨_, rfl⟩
    rw [← hna] at HBD1 EJ
    rw [← hnb] at HBD2 EJ
    obtain ⟨da, hda⟩ : ∃ d, d = V1.getD na 0 := ⟨_, rfl⟩
    obtain ⟨db, hdb⟩ : ∃ d, d = V2.getD nb 0 := ⟨_, rfl⟩
    rw [← hda] at HBD1 EJ
    rw [← hdb] at HBD2 EJ
    obtain ⟨r, hr⟩ : ∃ r, r = (if k = 2 then (da + db) % p else (da * db) % p) := ⟨_, rfl⟩
    rw [← hr] at EJ
    obtain ⟨V3, hV3⟩ : ∃ V, V = V1 ++ V2 ++ [r] := ⟨_, rfl⟩
    rw [← hV3] at EJ
    have HV3 := Lib.hid hV3
    have HR := Lib.hid hr
    have hl3 : V3.length = L.length + M.length + 1 := by rw [hV3]; simp; omega
    have hls := Lib.hid (show V1.length = L.length ∧ V2.length = M.length ∧ V3.length = L.length + M.length + 1 from ⟨hl1, hl2, hl3⟩)
    have i1 : V1.length ≤ L.length := by omega
    have i2 : L.length ≤ V1.length := by omega
    have i3 : V2.length ≤ M.length := by omega
    have i4 : M.length ≤ V2.length := by omega
    have i5 : V3.length ≤ L.length + M.length + 1 := by omega
    have i6 : L.length + M.length + 1 ≤ V3.length := by omega
    have j1 : na + 1 ≤ L.length := by omega
    have j2 : L.length ≤ na + 1 := by omega
    have j3 : nb + 1 ≤ M.length := by omega
    have j4 : M.length ≤ nb + 1 := by omega
    have HNA := Lib.hid hna
    have HNB := Lib.hid hnb
    have HDA := Lib.hid hda
    have HDB := Lib.hid hdb
    clear hl1 hl2 hl3 hna hnb hda hdb hV3 hr
    refine (iEvalGates p x y z _ L _ HG6.out).mono ?_
    rw [EL.out]
    rintro e w7 ⟨ua, rfl, hO7, hb7⟩
    obtain ⟨ga, oa, ca, rfl, hga, hca⟩ := ints_some hO7.ints (by omega)
    have HG7 := Lib.hid (Gats.below HG6.out hb7)
    have HU7 := Lib.hid (Gats.below HU6.out hb7)
    have HE7 := Lib.hid (Gats.below HE6.out hb7)
    have HB7 := Lib.hid (HB6.out.trans (hb7.mono HB6.out.size))
    have hA7 : AB < w7.heap.size := Nat.lt_of_lt_of_le hA6 hb7.size
    have HP7 := Lib.hid (HP6.out.below hb7 hA6)
    have HCA := Lib.hid hca
    clear c0 c1 c2
    obtain ⟨c0, c1, c2⟩ := HP7.out
    clear hO7 hb7 hca HG6 HU6 HE6 HB6 HP6 hV1 hV2
    go_wp2_with fail
    refine (iEvalGates p x y z _ M _ HU7.out).mono ?_
    rw [EM.out]
    rintro e w8 ⟨ub, rfl, hO8, hb8⟩
    obtain ⟨gb, ob, cb, rfl, hgb, hcb⟩ := ints_some hO8.ints (by omega)
    have HG8 := Lib.hid (Gats.below HG7.out hb8)
    have HU8 := Lib.hid (Gats.below HU7.out hb8)
    have HE8 := Lib.hid (Gats.below HE7.out hb8)
    have HB8 := Lib.hid (HB7.out.trans (hb8.mono HB7.out.size))
    have HP8 := Lib.hid (HP7.out.below hb8 hA7)
    have HCA8 := Lib.hid (fun (j : Nat) (hj : j < V1.length) => by rw [hb8.cell (p := ⟨ga, oa + j, none⟩) hga]; exact HCA.out j hj : ∀ j : Nat, j < V1.length → w8.cell? ⟨ga, oa + j, none⟩ = some (.int .i64 (V1.getD j 0)))
    have hga8 : ga < w8.heap.size := Nat.lt_of_lt_of_le hga hb8.size
    have HCB := Lib.hid hcb
    clear c0 c1 c2
    obtain ⟨c0, c1, c2⟩ := HP8.out
    clear hO8 hb8 hcb HG7 HU7 HE7 HB7 HCA
    go_wp2_with fail
    refine (iEvalGates p x y z _ (joinL L M k) _ HE8.out).mono ?_
    rw [EJ.out]
    rintro e w9 ⟨uc, rfl, hO9, hb9⟩
    obtain ⟨ge, oe, ce, rfl, hge, hce⟩ := ints_some hO9.ints (by omega)
    have HV9 := Lib.hid (show VSt w v u vE L M (joinL L M k) ga oa gb ob ge oe V1 V2 V3 w9 from
      ⟨Gats.below HG8.out hb9, Gats.below HU8.out hb9, Gats.below HE8.out hb9, fun j hj => by rw [hb9.cell (p := ⟨ga, oa + j, none⟩) hga8]; exact HCA8.out j hj, fun j hj => by rw [hb9.cell (p := ⟨gb, ob + j, none⟩) hgb]; exact HCB.out j hj, hce,
       Nat.lt_of_lt_of_le hga8 hb9.size, Nat.lt_of_lt_of_le hgb hb9.size, hge, HB8.out.trans (hb9.mono HB8.out.size)⟩)
    have hwa : IntKind.i64.wrap ((V1.length : Int) - 1) = (na : Int) := by rw [IntWalk.i64_in _ (by omega)]; omega
    have hwb : IntKind.i64.wrap ((V2.length : Int) - 1) = (nb : Int) := by rw [IntWalk.i64_in _ (by omega)]; omega
    obtain ⟨nc, hnc⟩ : ∃ n, n = L.length + M.length := ⟨_, rfl⟩
    have hwc : IntKind.i64.wrap ((V3.length : Int) - 1) = (nc : Int) := by rw [IntWalk.i64_in _ (by omega)]; omega
    have h3c : V3.getD nc 0 = r := by rw [HV3.out, getD_snoc, if_pos (by simp; omega)]
    have hna1 : (na : Int) < (V1.length : Int) := by omega
    have hnb1 : (nb : Int) < (V2.length : Int) := by omega
    have hnc1 : (nc : Int) < (V3.length : Int) := by omega
    have hna2 : na < V1.length := by omega
    have hnb2 : nb < V2.length := by omega
    have hnc2 : nc < V3.length := by omega
    have hna0 : (0 : Int) ≤ (na : Int) := by omega
    have hnb0 : (0 : Int) ≤ (nb : Int) := by omega
    have hnc0 : (0 : Int) ≤ (nc : Int) := by omega
    have q1 := HV9.out.c1 na (by omega)
    have q2 := HV9.out.c2 nb (by omega)
    rw [← HDA.out] at q1
    rw [← HDB.out] at q2
    have hg1 := HV9.out.l1
    have hg2 := HV9.out.l2
    have H3C := Lib.hid h3c
    obtain ⟨rA, hrA⟩ : ∃ x, addV p da db = x := ⟨_, rfl⟩
    have HRA := Lib.hid hrA
    clear hO9 hb9 hce HG8 HU8 HE8 HB8 HCA8 HCB HP8 HP7 c0 c1 c2 h3c hnc hrA hga hga8 hgb hge
    go_wp2_with fail
    go_region_held3 (fun w' => w'.cell? ⟨ga, oa + na, none⟩ = some (.int .i64 da) ∧ w'.cell? ⟨gb, ob + nb, none⟩ = some (.int .i64 db)) (first | exact keep2 hb10 (by simpa using hg1) (by simpa using hg2) (by assumption) | go_keep)
      (first | (go_at_call 10; refine (iAdd p da db _).mono ?_; rintro e w10 ⟨he, hb10⟩; rw [HRA.out] at he; subst he))
    all_goals
      have HV10 := Lib.hid ((HV9.out.on (w' := w9.drew) (Below.drew (Below.refl _ _))).on hb10)
      clear hb10 q1 q2 hg1 hg2
      rcases HK.out with hk | hk
      · subst hk
        have hra : rA = r := by rw [← HRA.out, HR.out, if_pos rfl, addV_at HP.out HBD1.1 HBD1.2 HBD2.1 HBD2.2]
        subst hra
        have q3 := HV10.out.c3 nc (by omega)
        rw [H3C.out] at q3
        have HL0 := Lib.hid (RowI.lit0 w10 w10.heap.size (Nat.le_refl _))
        have HVa := Lib.hid (HV10.out.on (w' := w10.alloc (.cells #[] 3)) (Below.alloc (Below.refl _ _) (Nat.le_refl _) _))
        have HF1 := Lib.hid (ints_read HVa.out.c1)
        go_wp2_with (at_builtin; refine wpList_guarded (by rfl) ?_; refine wpList_append_own _ rfl _ _ 28 rfl (w10.heap.size) 3 i0 (.int .i64 0) 1 8 Try.underlying28 hi hz0 hz1 hz2 rfl (by decide) _ _ _ rfl HL0.out ⟨ga, oa, none⟩ V1.length ca (V1.map (.int .i64)) rfl (by simp) HF1.out ints_cell (by unfold maxLen; simp; omega) (by simp; omega) (by simp) ?_)
        intro v11 w11 hown hgrow _
        have HR11 := Lib.hid (show RowI w11 w10.heap.size v11 V1 from hown)
        have HB11 := Lib.hid (HL0.out.grow (Below.alloc (Below.refl _ _) (Nat.le_refl _) _ : Below w10.heap.size w10 _) (by simp) (Below.refl _ _) hgrow)
        have HV11 := Lib.hid (HV10.out.on HB11.out)
        have hs11 := HB11.out.size
        have HF2 := Lib.hid (ints_read HV11.out.c2)
        clear hown hgrow HF1 HVa HL0 q3
        go_wp2_with (at_builtin; refine wpList_guarded (by rfl) ?_; refine wpList_append_own _ rfl _ _ 28 rfl (w10.heap.size) 3 i0 (.int .i64 0) 1 8 Try.underlying28 hi hz0 hz1 hz2 rfl (by decide) _ _ _ rfl HR11.out ⟨gb, ob, none⟩ V2.length cb (V2.map (.int .i64)) rfl (by simp) HF2.out ints_cell (by unfold maxLen; omega) (by omega) hs11 ?_)
        intro v12 w12 hown hgrow _
        have HR12 := Lib.hid (show RowI w12 w10.heap.size v12 (V1 ++ V2) from RowI.join rfl hown)
        have HB12 := Lib.hid (HB11.out.trans (HR11.out.grow (Below.refl w10.heap.size w11) hs11 (Below.refl _ _) hgrow))
        have hs12 := HB12.out.size
        have hla : (V1 ++ V2).length ≤ 130 := by simp; omega
        clear hown hgrow HF2 HV11 HR11 HB11
        go_wp2_with (at_builtin; refine wpList_guarded (by rfl) ?_; refine wpList_append_own _ rfl _ _ 28 rfl (w10.heap.size) 3 i0 (.int .i64 0) 1 8 Try.underlying28 hi hz0 hz1 hz2 rfl (by decide) _ _ _ rfl (RowI.below HR12.out (by repeat (first | exact Below.refl _ _ | (refine Below.alloc ?_ (by first | omega | (simp <;> omega)) _)))) _ 1 1 [.int .i64 rA] rfl rfl (by intro j u hj; match j, hj with | 0, hj => (simp at hj; subst hj; simp [Addr.add, go_sem])) (one_ok _) (by unfold maxLen; omega) (by omega) (by first | omega | (simp; omega)) ?_)
        intro v13 w13 hown hgrow _
        have HR13 := Lib.hid (show RowI w13 w10.heap.size v13 (V1 ++ V2 ++ [rA]) from by unfold RowI; simp only [List.length_append, List.length_cons, List.length_nil, Nat.zero_add, List.map_append, List.map_cons, List.map_nil, List.append_assoc]; exact hown)
        have HB13 := Lib.hid (HR12.out.grow HB12.out hs12 (by repeat (first | exact Below.refl _ _ | apply Below.drew | apply below_drewN | (refine Below.alloc ?_ (by first | omega | (simp <;> omega)) _))) hgrow)
        have HV13 := Lib.hid (HV10.out.on HB13.out)
        clear hown hgrow HR12 HB12
        go_wp2_with fail
        have I3 : Ints w13 (.slice (some ⟨ge, oe, none⟩) V3.length ce) V3 := ⟨by omega, _, _, rfl, .inr ⟨ge, oe, rfl, HV13.out.l3, HV13.out.c3⟩⟩
        have I13 : Ints w13 v13 V3 := by rw [HV3.out]; exact (HR13.out.own (by simp; omega)).ints
        refine (sameInts _ _ _ _ I3 I13).mono ?_
        rintro e w14 ⟨rfl, hd14⟩
        have HV14 := Lib.hid (HV13.out.on (hd14.below _))
        clear hd14 I3 I13 HR13 HV13 HB13
        go_wp2_with fail
        refine (iDepthOf p _ (joinL L M 2) _ HV14.out.gE).mono ?_
        rw [DJ.out]
        rintro e w15 ⟨rfl, hb15⟩
        have HV15 := Lib.hid (HV14.out.on hb15)
        clear hb15 HV14
        go_wp2_with fail
        refine (iDepthOf p _ L _ HV15.out.gL).mono ?_
        rw [D1.out]
        rintro e w16 ⟨rfl, hb16⟩
        have HV16 := Lib.hid (HV15.out.on hb16)
        clear hb16 HV15
        go_wp2_with fail
        refine (iDepthOf p _ M _ HV16.out.gM).mono ?_
        rw [D2.out]
        rintro e w17 ⟨rfl, hb17⟩
        have HV17 := Lib.hid (HV16.out.on hb17)
        clear hb17 HV16
        by_cases hd : d2 ≤ d1
        · have hq : (dj == 1 + d1) = true := by rw [HDJ.out]; simp; omega
          have hw : IntKind.i64.wrap (1 + d1) = 1 + d1 := IntWalk.i64_in _ (by omega)
          go_wp2_with fail
          go_ret
          exact ⟨rfl, HV17.out.low⟩
        · have hd' : d1 < d2 := by omega
          have hq : (dj == 1 + d2) = true := by rw [HDJ.out]; simp; omega
          have hw : IntKind.i64.wrap (1 + d2) = 1 + d2 := IntWalk.i64_in _ (by omega)
          go_wp2_with fail
          go_ret
          exact ⟨rfl, HV17.out.low⟩
      · subst hk
        have hr3 : mulV p da db = r := by rw [HR.out, if_neg (by decide), mulV_at HP.out HBD1.1 HBD1.2 HBD2.1 HBD2.2]
        have HRM := Lib.hid hr3
        have q1 := HV10.out.c1 na (by omega)
        have q2 := HV10.out.c2 nb (by omega)
        rw [← HDA.out] at q1
        rw [← HDB.out] at q2
        have hg1 := HV10.out.l1
        have hg2 := HV10.out.l2
        clear hr3
        go_wp2_with fail
        go_region_held3 (fun w' => w'.cell? ⟨ga, oa + na, none⟩ = some (.int .i64 da) ∧ w'.cell? ⟨gb, ob + nb, none⟩ = some (.int .i64 db)) (first | exact keep2 hb20 (by simpa using hg1) (by simpa using hg2) (by assumption) | go_keep)
          (first | (go_at_call 11; refine (iMul p da db _).mono ?_; rintro e w20 ⟨he, hb20⟩; rw [HRM.out] at he; subst he))
        all_goals
          have HV20 := Lib.hid ((HV10.out.on (w' := w10.drew) (Below.drew (Below.refl _ _))).on hb20)
          clear hb20 q1 q2 hg1 hg2
          have q3 := HV20.out.c3 nc (by omega)
          rw [H3C.out] at q3
          have HL0 := Lib.hid (RowI.lit0 w20 w20.heap.size (Nat.le_refl _))
          have HVa := Lib.hid (HV20.out.on (w' := w20.alloc (.cells #[] 3)) (Below.alloc (Below.refl _ _) (Nat.le_refl _) _))
          have HF1 := Lib.hid (ints_read HVa.out.c1)
          go_wp2_with (at_builtin; refine wpList_guarded (by rfl) ?_; refine wpList_append_own _ rfl _ _ 28 rfl (w20.heap.size) 3 i0 (.int .i64 0) 1 8 Try.underlying28 hi hz0 hz1 hz2 rfl (by decide) _ _ _ rfl HL0.out ⟨ga, oa, none⟩ V1.length ca (V1.map (.int .i64)) rfl (by simp) HF1.out ints_cell (by unfold maxLen; simp; omega) (by simp; omega) (by simp) ?_)
          intro v11 w11 hown hgrow _
          have HR11 := Lib.hid (show RowI w11 w20.heap.size v11 V1 from hown)
          have HB11 := Lib.hid (HL0.out.grow (Below.alloc (Below.refl _ _) (Nat.le_refl _) _ : Below w20.heap.size w20 _) (by simp) (Below.refl _ _) hgrow)
          have HV11 := Lib.hid (HV20.out.on HB11.out)
          have hs11 := HB11.out.size
          have HF2 := Lib.hid (ints_read HV11.out.c2)
          clear hown hgrow HF1 HVa HL0 q3
          go_wp2_with (at_builtin; refine wpList_guarded (by rfl) ?_; refine wpList_append_own _ rfl _ _ 28 rfl (w20.heap.size) 3 i0 (.int .i64 0) 1 8 Try.underlying28 hi hz0 hz1 hz2 rfl (by decide) _ _ _ rfl HR11.out ⟨gb, ob, none⟩ V2.length cb (V2.map (.int .i64)) rfl (by simp) HF2.out ints_cell (by unfold maxLen; omega) (by omega) hs11 ?_)
          intro v12 w12 hown hgrow _
          have HR12 := Lib.hid (show RowI w12 w20.heap.size v12 (V1 ++ V2) from RowI.join rfl hown)
          have HB12 := Lib.hid (HB11.out.trans (HR11.out.grow (Below.refl w20.heap.size w11) hs11 (Below.refl _ _) hgrow))
          have hs12 := HB12.out.size
          have hla : (V1 ++ V2).length ≤ 130 := by simp; omega
          clear hown hgrow HF2 HV11 HR11 HB11
          go_wp2_with (at_builtin; refine wpList_guarded (by rfl) ?_; refine wpList_append_own _ rfl _ _ 28 rfl (w20.heap.size) 3 i0 (.int .i64 0) 1 8 Try.underlying28 hi hz0 hz1 hz2 rfl (by decide) _ _ _ rfl (RowI.below HR12.out (by repeat (first | exact Below.refl _ _ | (refine Below.alloc ?_ (by first | omega | (simp <;> omega)) _)))) _ 1 1 [.int .i64 r] rfl rfl (by intro j u hj; match j, hj with | 0, hj => (simp at hj; subst hj; simp [Addr.add, go_sem])) (one_ok _) (by unfold maxLen; omega) (by omega) (by first | omega | (simp; omega)) ?_)
          intro v13 w13 hown hgrow _
          have HR13 := Lib.hid (show RowI w13 w20.heap.size v13 (V1 ++ V2 ++ [r]) from by unfold RowI; simp only [List.length_append, List.length_cons, List.length_nil, Nat.zero_add, List.map_append, List.map_cons, List.map_nil, List.append_assoc]; exact hown)
          have HB13 := Lib.hid (HR12.out.grow HB12.out hs12 (by repeat (first | exact Below.refl _ _ | apply Below.drew | apply below_drewN | (refine Below.alloc ?_ (by first | omega | (simp <;> omega)) _))) hgrow)
          have HV13 := Lib.hid (HV20.out.on HB13.out)
          clear hown hgrow HR12 HB12
          go_wp2_with fail
          have I3 : Ints w13 (.slice (some ⟨ge, oe, none⟩) V3.length ce) V3 := ⟨by omega, _, _, rfl, .inr ⟨ge, oe, rfl, HV13.out.l3, HV13.out.c3⟩⟩
          have I13 : Ints w13 v13 V3 := by rw [HV3.out]; exact (HR13.out.own (by simp; omega)).ints
          refine (sameInts _ _ _ _ I3 I13).mono ?_
          rintro e w14 ⟨rfl, hd14⟩
          have HV14 := Lib.hid (HV13.out.on (hd14.below _))
          clear hd14 I3 I13 HR13 HV13 HB13
          go_wp2_with fail
          refine (iDepthOf p _ (joinL L M 3) _ HV14.out.gE).mono ?_
          rw [DJ.out]
          rintro e w15 ⟨rfl, hb15⟩
          have HV15 := Lib.hid (HV14.out.on hb15)
          clear hb15 HV14
          go_wp2_with fail
          refine (iDepthOf p _ L _ HV15.out.gL).mono ?_
          rw [D1.out]
          rintro e w16 ⟨rfl, hb16⟩
          have HV16 := Lib.hid (HV15.out.on hb16)
          clear hb16 HV15
          go_wp2_with fail
          refine (iDepthOf p _ M _ HV16.out.gM).mono ?_
          rw [D2.out]
          rintro e w17 ⟨rfl, hb17⟩
          have HV17 := Lib.hid (HV16.out.on hb17)
          clear hb17 HV16
          by_cases hd : d2 ≤ d1
          · have hq : (dj == 1 + d1) = true := by rw [HDJ.out]; simp; omega
            have hw : IntKind.i64.wrap (1 + d1) = 1 + d1 := IntWalk.i64_in _ (by omega)
            go_wp2_with fail
            go_ret
            exact ⟨rfl, HV17.out.low⟩
          · have hd' : d1 < d2 := by omega
            have hq : (dj == 1 + d2) = true := by rw [HDJ.out]; simp; omega
            have hw : IntKind.i64.wrap (1 + d2) = 1 + d2 := IntWalk.i64_in _ (by omega)
            go_wp2_with fail
            go_ret
            exact ⟨rfl, HV17.out.low⟩
set_option maxHeartbeats 2000000 in
theorem wJoin_long (a : Option Addr) (len cap : Nat) (a' : Option Addr) (len' cap' : Nat) (w : World) (h1 : len ≤ 9223372036854775807) (h2 : len' ≤ 9223372036854775807) (hl : ¬ (len ≤ 1048576 ∧ len' ≤ 1048576)) :
    Calls Try.prog 5 #[.slice a len cap, .slice a' len' cap'] w fun e w' => e = .returned (.bool true) ∧ Below w.heap.size w w' := by
  by_cases h : len ≤ 1048576
  · have hp : (len : Int) ≤ 1048576 := by omega
    have hq : (1048576 : Int) < (len' : Int) := by omega
    go_enter Try.func5, Try.ntmps5
    go_wp2_with fail
    go_ret
    exact ⟨rfl, Below.refl _ _⟩
  · have hp : (1048576 : Int) < (len : Int) := by omega
    go_enter Try.func5, Try.ntmps5
    go_wp2_with fail
    go_ret
    exact ⟨rfl, Below.refl _ _⟩
theorem wJoin (a : Option Addr) (len cap : Nat) (a' : Option Addr) (len' cap' : Nat) (w : World) (h : ByteRow w a len cap) (h' : ByteRow w a' len' cap') :
    Calls Try.prog 5 #[.slice a len cap, .slice a' len' cap'] w fun e w' => e = .returned (.bool true) ∧ Below w.heap.size w w' := by
  by_cases hl : len ≤ 1048576 ∧ len' ≤ 1048576
  · exact wJoin_in a len cap a' len' cap' w h h' hl.1 hl.2
  · exact wJoin_long a len cap a' len' cap' w (Nat.le_trans h.1 h.2.1) (Nat.le_trans h'.1 h'.2.1) hl
end Go.Proofs.Ytgbjchidnnmifaa
