/-
  The model goes back through the gates of a circuit. Conditions: what the cells hold is known; the gates are a circuit.
-/
import Derived.Test.YtibghhkhnpjdfaaBa16
import Derived.Test.YtibghhkhnpjdfaaBa26
import Derived.Deep.Cut
namespace Go.Proofs.Ytibghhkhnpjdfaa
open Go.RowKit
theorem bckS_neg {L : List Gt} {one : Int} {i : Nat} {s : List Gt × List Int} (h : s.2.getD i 0 < 0) : bckS L one i s = s := by
  unfold bckS
  split
  · unfold pasB
    rw [if_pos h, if_pos h]
  · rfl
theorem bckS_off {L : List Gt} {one : Int} {i : Nat} {s : List Gt × List Int} (h : joinsB (gAt L i) = false) : bckS L one i s = s := by
  unfold bckS
  rw [if_neg (by simp [h])]
theorem bckS_sum {L : List Gt} {one : Int} {i ja jb : Nat} {s : List Gt × List Int} (hg : gAt L i = ⟨2, (ja : Int), (jb : Int)⟩) (h : ¬ s.2.getD i 0 < 0) : bckS L one i s = addB jb (s.2.getD i 0) (addB ja (s.2.getD i 0) s) := by
  unfold bckS
  rw [hg, if_pos (show joinsB ⟨2, (ja : Int), (jb : Int)⟩ = true from rfl)]
  unfold pasB
  rw [if_neg h, if_neg h]
  rfl
theorem bckS_mul {L : List Gt} {one : Int} {i ja jb : Nat} {s : List Gt × List Int} (hg : gAt L i = ⟨3, (ja : Int), (jb : Int)⟩) (h : ¬ s.2.getD i 0 < 0) :
    bckS L one i s = addB jb (tmG one (s.2.getD i 0) ja (addB ja (tmG one (s.2.getD i 0) jb s.1).1 ((tmG one (s.2.getD i 0) jb s.1).2, s.2)).1).1 ((tmG one (s.2.getD i 0) ja (addB ja (tmG one (s.2.getD i 0) jb s.1).1 ((tmG one (s.2.getD i 0) jb s.1).2, s.2)).1).2, (addB ja (tmG one (s.2.getD i 0) jb s.1).1 ((tmG one (s.2.getD i 0) jb s.1).2, s.2)).2) := by
  unfold bckS
  rw [hg, if_pos (show joinsB ⟨3, (ja : Int), (jb : Int)⟩ = true from rfl)]
  unfold pasB
  rw [if_neg h, if_neg h]
  rfl
theorem addB_len (j : Nat) (k : Int) (s : List Gt × List Int) : (addB j k s).2.length = s.2.length := by simp [addB]
theorem addB_max (j : Nat) (k : Int) (s : List Gt × List Int) : (addB j k s).1.length ≤ s.1.length + 1 := by
  unfold addB jnG
  split <;> simp
theorem tmG_max (one k o : Int) (C : List Gt) : (tmG one k o C).2.length ≤ C.length + 1 := by
  unfold tmG
  split <;> simp
theorem keepA3 {W w1 : World} {t G H : Nat} {v : Value} {a b c : Value} (ha : Apt G H v W w1) (ht : t < W.heap.size) (hG : t ≠ G) (hH : t ≠ H) (hv : v.ownBlock ≠ some t)
    (h : W.cell? ⟨t, 0, none⟩ = some a ∧ W.cell? ⟨t, 1, none⟩ = some b ∧ W.cell? ⟨t, 2, none⟩ = some c) : w1.cell? ⟨t, 0, none⟩ = some a ∧ w1.cell? ⟨t, 1, none⟩ = some b ∧ w1.cell? ⟨t, 2, none⟩ = some c :=
  ⟨ha.get ht hG hH hv h.1, ha.get ht hG hH hv h.2.1, ha.get ht hG hH hv h.2.2⟩
set_option maxRecDepth 100000 in
set_option maxHeartbeats 16000000 in
theorem sBack (B G H : Nat) (p one : Int) (L : List Gt) (hv : circB p L = true) (g off cap : Nat) (v : Value) (s : List Gt × List Int) (w : World) (hBH : B ≤ H) (hgB : g < B)
    (hc : ∀ j : Nat, j < L.length → GAt w g (off + j * 3) (L.getD j default)) (hB : BSt p L.length (L.length + 1) (s.1, s.2.set (L.length - 1) one)) (hn : L.length ≤ s.1.length) (h : BrS w G H v s) :
    Calls Try.prog 202 #[.pointer (some ⟨G, 0, none⟩), .slice (some ⟨g, off, none⟩) L.length cap, .int .i64 one] w fun e w' => e = .returned (.tuple #[]) ∧ BrTo B G H (bckN L one L.length (s.1, s.2.set (L.length - 1) one)) v w w' := by
  obtain ⟨hp, hl1, hl2, hall⟩ := circB_iff.1 hv
  have hlen : s.2.length = L.length := by have := hB.len; simpa using this
  obtain ⟨n1, hn1⟩ : ∃ m, L.length = m + 1 := ⟨L.length - 1, by omega⟩
  have hGl := h.ms.sh.lt
  have hHG := h.lt
  obtain ⟨F, hF⟩ : ∃ F, F = bckN L one L.length (s.1, s.2.set (L.length - 1) one) := ⟨_, rfl⟩
  rw [← hF]
  have c1 := h.ms.sh.oth 4 (by omega) (by omega)
  rw [show brC H s.2.length 4 = .slice (some ⟨H, 0, none⟩) s.2.length s.2.length from rfl, hlen] at c1
  have d0 := h.br.c n1 (by omega)
  have f0 := h.br.f n1 (by omega)
  obtain ⟨W1, hW1⟩ : ∃ W1, W1 = w.setCell ⟨H, n1, none⟩ (.int .i64 one) := ⟨_, rfl⟩
  have h1 : BrS W1 G H v (s.1, s.2.set (L.length - 1) one) := by
    rw [hW1, show L.length - 1 = n1 by omega]
    exact ⟨by rw [List.length_set]; exact h.ms.far hHG _, h.br.set (by omega) _, hHG⟩
  have b1 : Below B w W1 := by rw [hW1]; exact (Below.refl _ _).setCell hBH _
  have a1 : Apt G H v w W1 := fun b _ _ hbH _ => by rw [hW1]; exact Below.heap_setCell _ _ _ _ (by simpa using fun e => hbH e)
  have H0 := Lib.hid (show ∃ (v' : Value) (s' : List Gt × List Int), BrS W1 G H v' s' ∧ Below B w W1 ∧ Apt G H v w W1 ∧ Moves v v' w ∧ bckN L one L.length s' = F ∧ BSt p L.length (L.length + 1 + 4 * (L.length - L.length)) s' ∧ L.length ≤ s'.1.length from
    ⟨v, _, h1, b1, a1, .inl rfl, hF.symm, hB.more (by omega), hn⟩)
  have HC := Lib.hid hc
  have HA := Lib.hid hall
  have hgl : g < w.heap.size := by omega
  have hww : IntKind.i64.wrap ((L.length : Int) - 1) = (n1 : Int) := by rw [IntWalk.i64_in _ (by omega)]; omega
  have hnl : (n1 : Int) < (L.length : Int) := by omega
  have hn0 : (0 : Int) ≤ (n1 : Int) := by omega
  have HW1 := Lib.hid hW1
  have HN1 := Lib.hid hn1
  have HVN := Lib.hid (h.ms.old (Nat.le_refl _))
  have HFF := Lib.hid hF
  clear hc hall hv hB h hF hW1 h1 b1 a1 hlen hn1 hn
  go_enter Try.func202, Try.ntmps202
  go_upto_region 1 with fail
  rw [← HW1.out]
  clear c1 d0 f0 HW1
  go_wp2_with fail
  go_loopw [6] (fun i wr => ∃ (k : Nat) (v' : Value) (s' : List Gt × List Int), k ≤ L.length ∧ i = .int .i64 ((k : Int) - 1) ∧ BrS wr G H v' s' ∧ Below B w wr ∧ Apt G H v w wr ∧ Moves v v' w ∧ bckN L one k s' = F ∧ BSt p L.length (L.length + 1 + 4 * (L.length - k)) s' ∧ L.length ≤ s'.1.length) (fun i _ => (intOf i + 1).toNat)
  case atStart =>
    obtain ⟨v', s', h⟩ := H0.out
    exact ⟨L.length, v', s', Nat.le_refl _, by have := HN1.out; congr 1; omega, h⟩
  case round =>
    clear H0
    obtain ⟨k, v', s', hk, rfl, hS, hb, ha, hm, hF, hBS, hn⟩ := hrel
    by_cases hk0 : k = 0
    · subst hk0
      have HE := Lib.hid (show BrTo B G H F v w wr from ⟨v', by rw [← hF]; exact hS, hb, ha, hm⟩)
      clear hS hb ha hm hF hBS
      go_wp2_with fail
      refine bodyPost_end (v := .tuple #[]) (by simp [results, Try.results202, go_sem]) rfl ⟨rfl, HE.out⟩
    · obtain ⟨i, rfl⟩ : ∃ i, k = i + 1 := ⟨k - 1, by omega⟩
      have hi : i < L.length := by omega
      have hie : ((i + 1 : Nat) : Int) - 1 = (i : Int) := by omega
      rw [hie]
      have hi0 : (0 : Int) ≤ (i : Int) := by omega
      have hil : (i : Int) < (L.length : Int) := by omega
      obtain ⟨a0, a1, a2⟩ := (HC.out i hi).below hb hgB
      obtain ⟨x', hx⟩ : ∃ x, x = L.getD i default := ⟨_, rfl⟩
      rw [← hx] at a0 a1 a2
      have hx0 := HA.out i hi
      rw [← gat_mk hx] at hx0
      have hcs := gOK_cases hx0
      simp only at hcs
      have hGA := (gat_mk hx).symm
      have hlen := hBS.len
      have hmx := hBS.max
      obtain ⟨d, hd⟩ : ∃ d, d = s'.2.getD i 0 := ⟨_, rfl⟩
      have hlo := hBS.lo i hi
      rw [← hd] at hlo
      have c1 := hS.ms.sh.oth 4 (by omega) (by omega)
      rw [show brC H s'.2.length 4 = .slice (some ⟨H, 0, none⟩) s'.2.length s'.2.length from rfl, hlen] at c1
      have e0 := hS.br.c i (by omega)
      rw [← hd] at e0
      obtain ⟨xk, xa, xb⟩ := x'
      simp only at a0 a1 a2 hcs hGA
      obtain ⟨t, ht⟩ : ∃ t, t = wr.heap.size := ⟨_, rfl⟩
      obtain ⟨W6, hW6⟩ : ∃ W6, W6 = wr.alloc (Obj.cells #[.int .i64 xk, .int .i64 xa, .int .i64 xb] 116) := ⟨_, rfl⟩
      have b6 : Below wr.heap.size wr W6 := by rw [hW6]; exact (by repeat (first | exact Below.refl _ _ | apply Below.drew | apply below_drewN | (refine Below.alloc ?_ (by first | omega | (simp <;> omega)) _)))
      have t0 : W6.cell? ⟨t, 0, none⟩ = some (.int .i64 xk) := by rw [hW6, ht]; simp [go_sem]
      have t1 : W6.cell? ⟨t, 1, none⟩ = some (.int .i64 xa) := by rw [hW6, ht]; simp [go_sem]
      have t2 : W6.cell? ⟨t, 2, none⟩ = some (.int .i64 xb) := by rw [hW6, ht]; simp [go_sem]
      have tl : t < W6.heap.size := by rw [hW6, ht]; simp
      have hs6 : w.heap.size ≤ wr.heap.size := hb.size
      have HS6 := Lib.hid (show BrS W6 G H v' s' ∧ Below B w W6 ∧ Apt G H v w W6 ∧ Moves v v' w from ⟨hS.below b6, hb.trans (b6.mono (by have := hb.size; omega)), ha.trans (Apt.of_below b6) hm hb.size, hm⟩)
      have htv : v'.ownBlock ≠ some t := by rw [ht]; exact hS.ms.old (Nat.le_refl _)
      have hGt : t ≠ G := by have := hS.ms.sh.lt; omega
      have hHt : t ≠ H := by have := hS.br.lt; omega
      have g1 : W6.cell? ⟨G, 4, none⟩ = some (.slice (some ⟨H, 0, none⟩) L.length L.length) := by rw [b6.cell (p := ⟨G, 4, none⟩) hS.ms.sh.lt]; exact c1
      have g2 : W6.cell? ⟨H, i, none⟩ = some (.int .i64 d) := by rw [b6.cell (p := ⟨H, i, none⟩) hS.br.lt]; exact e0
      have HW6 := Lib.hid hW6
      have HT := Lib.hid ht
      have HD := Lib.hid hd
      have HGA := Lib.hid hGA
      have HBS := Lib.hid hBS
      have HF := Lib.hid hF
      clear hx hx0 hW6 ht b6 hS hb ha hm hd hGA hBS hF c1 e0
      go_upto_region 5 with fail
      rw [← HW6.out, ← HT.out]
      clear HW6 HT a0 a1 a2
      by_cases hneg : d < 0
      · have HE := Lib.hid (show bckN L one i s' = F by rw [← HF.out]; show _ = bckN L one i (bckS L one i s'); rw [bckS_neg (by rw [← HD.out]; exact hneg)])
        clear t0 t1 t2
        go_wp2_with fail
        go_roundw
        case rel => exact ⟨i, v', s', by omega, by go_num, HS6.out.1, HS6.out.2.1, HS6.out.2.2.1, HS6.out.2.2.2, HE.out, HBS.out.more (by omega), hn⟩
        case measure => first | (simp [intOf]; done) | (simp [intOf]; omega)
      · by_cases hk2 : xk = 2
        · subst hk2
          obtain ⟨ja, rfl⟩ := Int.eq_ofNat_of_zero_le (show 0 ≤ xa by omega)
          obtain ⟨jb, rfl⟩ := Int.eq_ofNat_of_zero_le (show 0 ≤ xb by omega)
          have hja : ja < L.length := by omega
          have hjb : jb < L.length := by omega
          have hdn : ¬ s'.2.getD i 0 < 0 := by rw [← HD.out]; exact hneg
          obtain ⟨B1, B2⟩ := bckS_st (one := one) HA.out hi HBS.out hn
          rw [bckS_sum HGA.out hdn, ← HD.out] at B1 B2
          have HE := Lib.hid (show bckN L one i (addB jb d (addB ja d s')) = F by
            rw [← HF.out]
            show _ = bckN L one i (bckS L one i s')
            rw [bckS_sum HGA.out hdn, ← HD.out])
          have HB1 := Lib.hid (B1.more (show L.length + 1 + 4 * (L.length - (i + 1)) + 4 ≤ L.length + 1 + 4 * (L.length - i) by omega))
          have hB2 := Nat.le_trans hn B2
          have hx1 := addB_max ja d s'
          have hx2 := addB_len ja d s'
          clear hdn B1 B2
          go_wp2_with fail
          refine (sAddB B G H ja d v' s' W6 (by omega) hBH (by omega) (by omega) HS6.out.1).mono ?_
          rintro e w7 ⟨rfl, v7, hs7, hb7, ha7, hm7⟩
          have HS7 := Lib.hid (show BrS w7 G H v7 (addB ja d s') ∧ Below B w w7 ∧ Apt G H v w w7 ∧ Moves v v7 w from ⟨hs7, HS6.out.2.1.trans hb7, HS6.out.2.2.1.trans ha7 HS6.out.2.2.2 HS6.out.2.1.size, HS6.out.2.2.2.trans hm7 HS6.out.2.1.size⟩)
          replace t0 := ha7.get tl hGt hHt htv t0
          replace t1 := ha7.get tl hGt hHt htv t1
          replace t2 := ha7.get tl hGt hHt htv t2
          clear hs7 hb7 ha7 hm7 g1 g2
          go_wp2_with fail
          refine (sAddB B G H jb d v7 (addB ja d s') w7 (by omega) hBH (by omega) (by omega) HS7.out.1).mono ?_
          rintro e w8 ⟨rfl, v8, hs8, hb8, ha8, hm8⟩
          have HS8 := Lib.hid (show BrS w8 G H v8 (addB jb d (addB ja d s')) ∧ Below B w w8 ∧ Apt G H v w w8 ∧ Moves v v8 w from ⟨hs8, HS7.out.2.1.trans hb8, HS7.out.2.2.1.trans ha8 HS7.out.2.2.2 HS7.out.2.1.size, HS7.out.2.2.2.trans hm8 HS7.out.2.1.size⟩)
          clear hs8 hb8 ha8 hm8 t0 t1 t2
          go_wp2_with fail
          go_roundw
          case rel => exact ⟨i, v8, _, by omega, by go_num, HS8.out.1, HS8.out.2.1, HS8.out.2.2.1, HS8.out.2.2.2, HE.out, HB1.out, hB2⟩
          case measure => first | (simp [intOf]; done) | (simp [intOf]; omega)
        · by_cases hk3 : xk = 3
          · subst hk3
            obtain ⟨ja, rfl⟩ := Int.eq_ofNat_of_zero_le (show 0 ≤ xa by omega)
            obtain ⟨jb, rfl⟩ := Int.eq_ofNat_of_zero_le (show 0 ≤ xb by omega)
            have hja : ja < L.length := by omega
            have hjb : jb < L.length := by omega
            have hdn : ¬ s'.2.getD i 0 < 0 := by rw [← HD.out]; exact hneg
            obtain ⟨B1, B2⟩ := bckS_st (one := one) HA.out hi HBS.out hn
            have E2 := bckS_mul (one := one) HGA.out hdn
            rw [← HD.out] at E2
            obtain ⟨r1, hr1⟩ : ∃ r, r = tmG one d jb s'.1 := ⟨_, rfl⟩
            rw [← hr1] at E2
            obtain ⟨s1, hs1⟩ : ∃ z, z = addB ja r1.1 (r1.2, s'.2) := ⟨_, rfl⟩
            rw [← hs1] at E2
            obtain ⟨r2, hr2⟩ : ∃ r, r = tmG one d ja s1.1 := ⟨_, rfl⟩
            rw [← hr2] at E2
            rw [E2] at B1 B2
            have HE := Lib.hid (show bckN L one i (addB jb r2.1 (r2.2, s1.2)) = F by
              rw [← HF.out]
              show _ = bckN L one i (bckS L one i s')
              rw [E2])
            have HB1 := Lib.hid (B1.more (show L.length + 1 + 4 * (L.length - (i + 1)) + 4 ≤ L.length + 1 + 4 * (L.length - i) by omega))
            have hB2 := Nat.le_trans hn B2
            have hx1 : r1.2.length ≤ s'.1.length + 1 := by rw [hr1]; exact tmG_max _ _ _ _
            have hx2 : s1.1.length ≤ r1.2.length + 1 := by rw [hs1]; exact addB_max _ _ _
            have hx3 : s1.2.length = s'.2.length := by rw [hs1]; exact addB_len _ _ _
            have hx4 : r2.2.length ≤ s1.1.length + 1 := by rw [hr2]; exact tmG_max _ _ _ _
            have HT1 := Lib.hid (fun w' (h : BrS w' G H v' s') => hr1 ▸ sTimes B G H one d ((jb : Nat) : Int) v' s' w' (by omega) (by omega) h)
            have HA1 := Lib.hid (fun v w' (h : BrS w' G H v (r1.2, s'.2)) => hs1 ▸ sAddB B G H ja r1.1 v (r1.2, s'.2) w' (by show r1.2.length ≤ 5000; omega) hBH (by show ja < s'.2.length; omega) (by show s'.2.length ≤ 60; omega) h)
            have HT2 := Lib.hid (fun v w' (h : BrS w' G H v s1) => hr2 ▸ sTimes B G H one d ((ja : Nat) : Int) v s1 w' (by omega) (by omega) h)
            have HA2 := Lib.hid (fun v w' (h : BrS w' G H v (r2.2, s1.2)) => sAddB B G H jb r2.1 v (r2.2, s1.2) w' (by show r2.2.length ≤ 5000; omega) hBH (by show jb < s1.2.length; omega) (by show s1.2.length ≤ 60; omega) h)
            clear hdn B1 B2 E2 hr1 hs1 hr2
            go_upto_region 12 with fail
            clear g1 g2
            go_region_held3 (fun w' => w'.cell? ⟨t, 0, none⟩ = some (.int .i64 3) ∧ w'.cell? ⟨t, 1, none⟩ = some (.int .i64 ja) ∧ w'.cell? ⟨t, 2, none⟩ = some (.int .i64 jb))
              (first | (with_reducible refine keepA3 ha8 ?_ hGt hHt ?_ (by assumption); exact Nat.lt_of_lt_of_le tl (by simpa using hb7.size); exact hm7.ne (by simpa using tl) htv) | (with_reducible refine keepA3 ha7 ?_ hGt hHt htv (by assumption); simpa using tl) | go_keep)
              (first
                | (go_at_call 196; refine (HT1.out _ (HS6.out.1.below (by repeat (first | exact Below.refl _ _ | apply Below.drew | apply below_drewN)))).mono ?_; rintro e w7 ⟨rfl, v7, hs7, hb7, ha7, hm7⟩)
                | (go_at_call 195; refine (HA1.out v7 _ hs7).mono ?_; rintro e w8 ⟨rfl, v8, hs8, hb8, ha8, hm8⟩))
            all_goals
              have b60 : Below W6.heap.size W6 W6.drew := Below.drew (Below.refl _ _)
              have HS8 := Lib.hid (show BrS w8 G H v8 s1 ∧ Below B w w8 ∧ Apt G H v w w8 ∧ Moves v v8 w from by
                have q1 : Below B w w7 := (HS6.out.2.1.trans (Below.drew (Below.refl B W6))).trans hb7
                have q2 : Apt G H v w w7 := HS6.out.2.2.1.trans (Apt.trans (Apt.of_below b60) ha7 (.inl rfl) (by simp)) HS6.out.2.2.2 HS6.out.2.1.size
                have q3 : Moves v v7 w := HS6.out.2.2.2.trans hm7 (by have := HS6.out.2.1.size; simpa using this)
                exact ⟨hs8, q1.trans hb8, q2.trans ha8 q3 q1.size, q3.trans hm8 q1.size⟩)
              have htv8 : v8.ownBlock ≠ some t := hm8.ne (Nat.lt_of_lt_of_le tl (by simpa using hb7.size)) (hm7.ne (by simpa using tl) htv)
              have tl8 : t < w8.heap.size := Nat.lt_of_lt_of_le tl (Nat.le_trans (by simpa using hb7.size) hb8.size)
              clear hs7 hb7 ha7 hm7 hs8 hb8 ha8 hm8 b60
              go_upto_region 13 with fail
              go_region_held3 (fun w' => w'.cell? ⟨t, 0, none⟩ = some (.int .i64 3) ∧ w'.cell? ⟨t, 1, none⟩ = some (.int .i64 ja) ∧ w'.cell? ⟨t, 2, none⟩ = some (.int .i64 jb))
                (first | (with_reducible refine keepA3 ha10 ?_ hGt hHt ?_ (by assumption); exact Nat.lt_of_lt_of_le tl8 (by simpa using hb9.size); exact hm9.ne (by simpa using tl8) htv8) | (with_reducible refine keepA3 ha9 ?_ hGt hHt htv8 (by assumption); simpa using tl8) | go_keep)
                (first
                  | (go_at_call 196; refine (HT2.out v8 _ (HS8.out.1.below (by repeat (first | exact Below.refl _ _ | apply Below.drew | apply below_drewN)))).mono ?_; rintro e w9 ⟨rfl, v9, hs9, hb9, ha9, hm9⟩)
                  | (go_at_call 195; refine (HA2.out v9 _ hs9).mono ?_; rintro e w10 ⟨rfl, v10, hs10, hb10, ha10, hm10⟩))
              all_goals
                have b80 : Below w8.heap.size w8 w8.drew := Below.drew (Below.refl _ _)
                have HS10 := Lib.hid (show BrS w10 G H v10 (addB jb r2.1 (r2.2, s1.2)) ∧ Below B w w10 ∧ Apt G H v w w10 ∧ Moves v v10 w from by
                  have q1 : Below B w w9 := (HS8.out.2.1.trans (Below.drew (Below.refl B w8))).trans hb9
                  have q2 : Apt G H v w w9 := HS8.out.2.2.1.trans (Apt.trans (Apt.of_below b80) ha9 (.inl rfl) (by simp)) HS8.out.2.2.2 HS8.out.2.1.size
                  have q3 : Moves v v9 w := HS8.out.2.2.2.trans hm9 (by have := HS8.out.2.1.size; simpa using this)
                  exact ⟨hs10, q1.trans hb10, q2.trans ha10 q3 q1.size, q3.trans hm10 q1.size⟩)
                clear hs9 hb9 ha9 hm9 hs10 hb10 ha10 hm10 b80
                go_wp2_with fail
                go_roundw
                case rel => exact ⟨i, v10, _, by omega, by go_num, HS10.out.1, HS10.out.2.1, HS10.out.2.2.1, HS10.out.2.2.2, HE.out, HB1.out, hB2⟩
                case measure => first | (simp [intOf]; done) | (simp [intOf]; omega)
          · have hk01 : xk = 0 ∨ xk = 1 := by omega
            have HE := Lib.hid (show bckN L one i s' = F by
              rw [← HF.out]
              show _ = bckN L one i (bckS L one i s')
              rw [bckS_off (by rw [HGA.out]; rcases hk01 with rfl | rfl <;> rfl)])
            go_wp2_with fail
            go_roundw
            case rel => exact ⟨i, v', s', by omega, by go_num, HS6.out.1, HS6.out.2.1, HS6.out.2.2.1, HS6.out.2.2.2, HE.out, HBS.out.more (by omega), hn⟩
            case measure => first | (simp [intOf]; done) | (simp [intOf]; omega)
end Go.Proofs.Ytibghhkhnpjdfaa
