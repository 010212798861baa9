/-
  Contracts of the model's draws of chapter 5: two polynomials, which often have the same values. Conditions: the bytes can be read.
-/
import Derived.Test.YtajabchbdhjdiaaBe4
import Derived.Test.YtajabchbdhjdiaaBa26
namespace Go.Proofs.Ytajabchbdhjdiaa
set_option linter.unusedVariables false
open Go.RowKit
theorem ownT_grown5 {w w' : World} {B R : Nat} {u : Value} {L : List Trm} (h : OwnTrms w B u L) (hR : R < B) (hg : w.grownBy w' (some R)) : OwnTrms w' B u L := by
  obtain ⟨hl, a, cap, e, h⟩ := h
  refine ⟨hl, a, cap, e, ?_⟩
  rcases h with h | ⟨g, off, e2, h1, h2, h3, h4⟩
  · exact .inl h
  · have hk : w'.heap[g]? = w.heap[g]? := hg.block g h2 (fun q => by injection q with q; omega)
    refine .inr ⟨g, off, e2, h1, Nat.lt_of_lt_of_le h2 hg.size, fun j hj => ?_, fun i hi => by rw [World.frozen?_of_block (a := ⟨g, off + i, none⟩) hk]; exact h4 i hi⟩
    obtain ⟨t0, t1, t2, t3⟩ := h3 j hj
    exact ⟨by rw [World.cell?_of_block (a := ⟨g, off + j * 4, none⟩) hk]; exact t0, by rw [World.cell?_of_block (a := ⟨g, off + j * 4 + 1, none⟩) hk]; exact t1, by rw [World.cell?_of_block (a := ⟨g, off + j * 4 + 2, none⟩) hk]; exact t2, by rw [World.cell?_of_block (a := ⟨g, off + j * 4 + 3, none⟩) hk]; exact t3⟩
theorem rdV_len (p : Int) (M : List Trm) : (rdV p M).length ≤ 121 := by
  cases h : (isP p && validB p M)
  · rw [(rdOk_no h).2]; simp
  · simp only [Bool.and_eq_true] at h
    rw [(rdOk_yes h.1 h.2).2]
    split
    · rename_i hv
      have := validB_len hv
      omega
    · simp
def Two5 (R : Nat) (w : World) (e : Ending) (w' : World) : Prop :=
  ∃ (p : Int) (v u : Value) (M N : List Trm), e = .returned (.tuple #[.int .i64 p, v, u]) ∧ M.length ≤ 121 ∧ N.length ≤ 121 ∧ Trms w' v M ∧ Trms w' u N ∧ w.grownBy w' (some R)
set_option maxRecDepth 10000 in
set_option maxHeartbeats 8000000 in
theorem two5_any (R : Nat) (a : Option Addr) (len cap : Nat) (w : World) (h : Rd w R a len cap 0) :
    Calls Try.prog 106 #[.pointer (some ⟨R, 0, none⟩)] w (Two5 R w) := by
  have hRs := h.sz
  go_enter Try.func106, Try.ntmps106
  go_wp2_with fail
  refine (some5_any R a len cap w h).mono ?_
  rintro e w1 ⟨p, v, M, q1, rfl, hp, hM, hq1, hR1, hr1, hg1⟩
  have HS1 := Lib.hid (QSt.of h hR1 hr1 hg1)
  have hs1 := hg1.size
  have HT1 := Lib.hid (show Trms w1 v M from (hr1.own (by omega)).trms)
  clear hR1 hr1 hg1 h
  go_wp2_with fail
  refine (sReducePoly p v M w1 HT1.out).mono ?_
  rintro e w2 ⟨u, rfl, hu, hb2⟩
  have HS2 := Lib.hid (HS1.out.on hb2)
  have HU2 := Lib.hid hu
  have hRu : R < w1.heap.size := by omega
  clear hu hb2 HS1
  obtain ⟨ok, hok⟩ : ∃ ok, ok = rdOk p M := ⟨_, rfl⟩
  have HLN := Lib.hid (rdV_len p M)
  rw [← hok]
  clear hok
  have HALT := Lib.hid (fun (q : Nat) (w3 : World) (hq : q ≤ 1000) (hS : QSt w R a len cap q v M w3) (f : Int) (hf : isP f = true) => terms_any R a len cap q f 3 hf (by omega) (by omega) w3 hS.rd (by omega))
  cases ok
  · go_wp2_with fail
    refine (field_pr p w2).mono ?_
    rintro e w3 ⟨f, rfl, hf, rfl⟩
    go_wp2_with fail
    refine (HALT.out q1 w2 (by omega) HS2.out f hf).mono ?_
    rintro e w4 ⟨x, N, q4, rfl, hN, hq4, hR4, hr4, hg4⟩
    have HS4 := Lib.hid (HS2.out.pk hR4 hg4)
    have hT4 := (hr4.own (by omega)).trms
    clear hR4 hr4 hg4
    go_wp2_with fail
    refine (bad2_any R a len cap q4 x N (by omega) w4 HS4.out.rd hT4 (by omega)).mono ?_
    rintro e w5 ⟨y, N5, q5, rfl, hN5, hq5, hR5, hr5, hg5⟩
    have HS5 := Lib.hid (HS4.out.pk hR5 hg5)
    have HY5 := Lib.hid (show Trms w5 y N5 from (hr5.own (by omega)).trms)
    clear hR5 hg5 hr5 hT4
    go_wp2_with fail
    refine bodyPost_ret (v := .tuple #[.int .i64 p, v, y]) (by simp [results, Try.results106, go_sem]) rfl ⟨p, v, y, M, N5, rfl, hM, hN5, (HS5.out.row.own (by omega)).trms, HY5.out, HS5.out.gr⟩
  · go_wp2_with fail
    refine (pick_any R a len cap q1 2 w2 HS2.out.rd (by omega)).mono ?_
    rintro e w3 ⟨n, rfl, n0, n1, hR3, hg3, hsz⟩
    have HS3 := Lib.hid (HS2.out.pk hR3 hg3)
    have HU3 := Lib.hid (ownT_grown5 HU2.out hRu hg3)
    clear hsz hR3 hg3 n1
    obtain ⟨nb, hnb⟩ : ∃ nb, nb = (n == 0) := ⟨_, rfl⟩
    have hnb2 : (n == 0) = nb := hnb.symm
    clear hnb
    cases nb
    · go_wp2_with fail
      refine (field_pr p w3).mono ?_
      rintro e w4 ⟨f, rfl, hf, rfl⟩
      go_wp2_with fail
      refine (HALT.out (q1 + 1) w3 (by omega) HS3.out f hf).mono ?_
      rintro e w4 ⟨x, N, q4, rfl, hN, hq4, hR4, hr4, hg4⟩
      have HS4 := Lib.hid (HS3.out.pk hR4 hg4)
      have hT4 := (hr4.own (by omega)).trms
      clear hR4 hr4 hg4
      go_wp2_with fail
      refine (bad2_any R a len cap q4 x N (by omega) w4 HS4.out.rd hT4 (by omega)).mono ?_
      rintro e w5 ⟨y, N5, q5, rfl, hN5, hq5, hR5, hr5, hg5⟩
      have HS5 := Lib.hid (HS4.out.pk hR5 hg5)
      have HY5 := Lib.hid (show Trms w5 y N5 from (hr5.own (by omega)).trms)
      clear hR5 hg5 hr5 hT4
      go_wp2_with fail
      refine bodyPost_ret (v := .tuple #[.int .i64 p, v, y]) (by simp [results, Try.results106, go_sem]) rfl ⟨p, v, y, M, N5, rfl, hM, hN5, (HS5.out.row.own (by omega)).trms, HY5.out, HS5.out.gr⟩
    · go_wp2_with fail
      refine bodyPost_ret (v := .tuple #[.int .i64 p, v, u]) (by simp [results, Try.results106, go_sem]) rfl ⟨p, v, u, M, rdV p M, rfl, hM, HLN.out, (HS3.out.row.own (by omega)).trms, HU3.out.trms, HS3.out.gr⟩
def DrawT2 (w : World) (e : Ending) (w' : World) : Prop :=
  ∃ (p : Int) (v u : Value) (L M : List Trm), e = .returned (.tuple #[.int .i64 p, v, u]) ∧ L.length ≤ 121 ∧ M.length ≤ 121 ∧ Trms w' v L ∧ Trms w' u M ∧ Below w.heap.size w w'
set_option maxHeartbeats 1000000 in
theorem drawSameValues (a : Option Addr) (len cap : Nat) (w : World) (h : ByteRow w a len cap) :
    Calls Try.prog 58 #[.slice a len cap] w (DrawT2 w) := by
  go_enter Try.func58, Try.ntmps58
  go_wp2_with fail
  refine (open_any a len cap w h).mono ?_
  rintro e w1 ⟨a1, l1, c1, rfl, hR1, hb1⟩
  go_wp2_with fail
  refine (two5_any w.heap.size a1 l1 c1 w1 hR1).mono ?_
  rintro e w2 ⟨p, v, u, M, N, rfl, hM, hN, hv, hu, hg2⟩
  have HV := Lib.hid (And.intro hv hu)
  have hB := Lib.hid (below_readerT hb1 hg2)
  clear hR1 hv hu hb1 hg2
  go_wp2_with fail
  refine bodyPost_ret (v := .tuple #[.int .i64 p, v, u]) (by simp [results, Try.results58, go_sem]) rfl ⟨p, v, u, M, N, rfl, hM, hN, HV.out.1, HV.out.2, hB.out⟩
end Go.Proofs.Ytajabchbdhjdiaa
