/-
  GradientPolys of the program. Conditions: the slice reads as a list of gates and has no more length than capacity.
  Three slices of terms in an array are compared, marked, and their marks are read again. Conditions: that they are owned, each above the ones ahead of it.
  The walk of the exact law of GradientPolys. Conditions: none but that the slice reads as a list of gates.
-/
import Derived.Test.YtibghhkhnpjdfaaBb19
import Derived.Test.YtibghhkhnpjdfaaBa11
import Derived.Test.YtibghhkhnpjdfaaBa3
import Derived.Test.YtibghhkhnpjdfaaBb4
import Derived.Deep.CutRange
namespace Go.Proofs.Ytibghhkhnpjdfaa
open Go.RowKit
set_option maxRecDepth 100000 in
set_option maxHeartbeats 8000000 in
theorem iGrPo (p : Int) (v : Value) (L : List Gt) (a b c : Int) (w : World) (h : Gats w v L) (hcap : CapOK v) :
    Calls Try.prog 66 #[.int .i64 p, .agg #[v, .int .i64 a, .int .i64 b, .int .i64 c]] w (GivesPA (fun j => gpV p L a b c (coord a b c (j : Int))) (gpB p L a b c) w) := by
  obtain ⟨n, hn⟩ : ∃ n, n = w.heap.size := ⟨_, rfl⟩
  obtain ⟨hl, a9, c9, rfl⟩ := gats_len h
  have hlc := hcap _ _ _ rfl
  obtain ⟨W, hW⟩ : ∃ W, W = (w.alloc (Obj.cells #[.slice a9 L.length c9, .int .i64 a, .int .i64 b, .int .i64 c] 78)).alloc (Obj.cells #[.slice none 0 0, .slice none 0 0, .slice none 0 0] 74) := ⟨_, rfl⟩
  have hG : GrAt W n (.slice a9 L.length c9) a b c := by rw [hW, hn]; refine ⟨?_, ?_, ?_, ?_⟩ <;> simp [go_sem]
  have hZ : (∀ j, j < 3 → W.cell? ⟨n + 1, j, none⟩ = some (.slice none 0 0)) ∧ ∀ j, j < 3 → W.frozen? ⟨n + 1, j, none⟩ = false := by
    rw [hW, hn]
    refine ⟨fun j hj => ?_, fun j hj => ?_⟩ <;> (have h3 : j = 0 ∨ j = 1 ∨ j = 2 := by omega) <;> rcases h3 with rfl | rfl | rfl <;> simp [go_sem]
  have bW : Below n w W := by rw [hW, hn]; exact (by repeat (first | exact Below.refl _ _ | apply Below.drew | apply below_drewN | (refine Below.alloc ?_ (by first | omega | (simp <;> omega)) _)))
  have HQ := Lib.hid h
  have HVA := Lib.hid (iGrValid p _ L a b c W (h.below (hn ▸ bW)))
  have HW := Lib.hid hW
  have HB := Lib.hid bW
  have HG := Lib.hid hG
  have HZ := Lib.hid hZ
  have hsW : W.heap.size = n + 2 := by rw [hW, hn]; simp
  have HN := Lib.hid hn
  clear h hcap hG hZ bW hW
  go_enter Try.func66, Try.ntmps66
  go_upto_region 1 with fail
  rw [← HW.out, ← hn]
  clear HW hn
  obtain ⟨g0, g1, g2, g3⟩ := HG.out
  go_wp2_with fail
  refine HVA.out.mono ?_
  rintro e w2 ⟨rfl, hb⟩
  have HG2 := Lib.hid (HG.out.below hb (by omega))
  have HB2 := Lib.hid (HB.out.trans (hb.mono (by omega)))
  have HZ2 := Lib.hid (show (∀ j, j < 3 → w2.cell? ⟨n + 1, j, none⟩ = some (.slice none 0 0)) ∧ ∀ j, j < 3 → w2.frozen? ⟨n + 1, j, none⟩ = false from ⟨fun j hj => by rw [hb.cell (p := ⟨n + 1, j, none⟩) (by show n + 1 < _; omega)]; exact HZ.out.1 j hj, fun j hj => by rw [hb.frozen (p := ⟨n + 1, j, none⟩) (by show n + 1 < _; omega)]; exact HZ.out.2 j hj⟩)
  have hs2 : n + 1 < w2.heap.size := by have := hb.size; omega
  clear hb g0 g1 g2 g3 HG HB HZ HVA hsW
  rcases Bool.eq_false_or_eq_true (gvB p L a b c) with hgv | hgv
  rotate_left
  · have HNO := Lib.hid (show gpB p L a b c = false ∧ ∀ k, gpV p L a b c k = [] by
      have e : gpB p L a b c = false := by unfold gpB; rw [hgv]; rfl
      exact ⟨e, fun k => by unfold gpV; rw [e]; rfl⟩)
    rw [hgv]
    clear hgv
    have y0 := HZ2.out.2 0 (by omega)
    have y1 := HZ2.out.2 1 (by omega)
    have y2 := HZ2.out.2 2 (by omega)
    have z0 := HZ2.out.1 0 (by omega)
    have z1 := HZ2.out.1 1 (by omega)
    have z2 := HZ2.out.1 2 (by omega)
    go_wp2_with fail
    refine bodyPost_ret (v := .tuple #[.agg #[.slice none 0 0, .slice none 0 0, .slice none 0 0], .bool false]) (by simp [results, Try.results66, go_sem, z0, z1, z2]) rfl ?_
    rw [HNO.out.1]
    refine ⟨fun _ => (none, 0, 0), fun _ => w.heap.size, rfl, Nat.le_refl _, fun _ => Nat.le_refl _, ?hs, fun j hj => ⟨by show OwnTrms _ _ _ (gpV p L a b c (coord a b c (j : Int))); rw [HNO.out.2 (coord a b c (j : Int))]; exact own_nil rfl, .inl (HNO.out.2 _)⟩, ?hb⟩
    case hs =>
      have hz := (HB2.out).size
      simp only [World.size_setCell]
      omega
    case hb =>
      rw [← HN.out]
      repeat (first | exact HB2.out | (refine Below.setCell ?_ (by first | omega | (simp; done) | (simp; omega)) _) | (refine Below.alloc ?_ (by first | omega | (simp; omega)) _))
  · have hpl := gvB_place hgv
    have HGV := Lib.hid hgv
    have HPL := Lib.hid hpl
    rw [hgv]
    obtain ⟨g9, o9, cap9, hsl, hg9, -⟩ := gats_slice HQ.out hpl.1
    injection hsl with h91 h92 h93
    subst h91 h93
    have hL60 := (circB_iff.1 hpl.1).2.2.1
    clear hgv hpl
    obtain ⟨q, hq⟩ : ∃ q, q = w2.heap.size := ⟨_, rfl⟩
    obtain ⟨w3, hw3⟩ : ∃ w3, w3 = w2.alloc (Obj.cells #[.slice none 0 0, .slice none 0 0, .slice none 0 0] 74) := ⟨_, rfl⟩
    have b3 : Below w2.heap.size w2 w3 := by rw [hw3]; exact Below.alloc (Below.refl _ _) (Nat.le_refl _) _
    have HO2 := Lib.hid (show OutT w3 q (fun j => gpR p L (coord a b c (j : Int))) 0 (fun _ => (none, 0, 0)) (fun _ => w3.heap.size) by
      rw [hw3, hq]
      refine ⟨by simp, fun j hj => ?_, fun j hj => World.frozen?_alloc_at _ _ _ j rfl, fun _ => Nat.le_refl _, Nat.le_refl _, fun j hj => absurd hj (Nat.not_lt_zero j), fun _ _ _ => rfl⟩
      have h3 : j = 0 ∨ j = 1 ∨ j = 2 := by omega
      rcases h3 with rfl | rfl | rfl <;> simp [go_sem, slV])
    have hnq : n + 1 < q := by omega
    have HG3 := Lib.hid (HG2.out.below b3 (by omega))
    have HZ3 := Lib.hid (show (∀ j, j < 3 → w3.cell? ⟨n + 1, j, none⟩ = some (.slice none 0 0)) ∧ ∀ j, j < 3 → w3.frozen? ⟨n + 1, j, none⟩ = false from ⟨fun j hj => by rw [b3.cell (p := ⟨n + 1, j, none⟩) hs2]; exact HZ2.out.1 j hj, fun j hj => by rw [b3.frozen (p := ⟨n + 1, j, none⟩) hs2]; exact HZ2.out.2 j hj⟩)
    have HB3 := Lib.hid (HB2.out.trans (b3.mono (by omega)))
    have HW3 := Lib.hid hw3
    clear hw3 b3 HG2 HZ2 HB2
    go_upto_region 4 with fail
    rw [← HW3.out, ← hq]
    clear HW3 hq
    obtain ⟨g0, g1, g2, g3⟩ := HG3.out
    go_wp2_with fail
    go_loopw [18] (fun i wr => ∃ (k : Nat) (u : Nat → Option Addr × Nat × Nat) (s : Nat → Nat), k ≤ 3 ∧ i = .int .i64 k ∧ OutT wr q (fun j => gpR p L (coord a b c (j : Int))) k u s ∧ Below q w3 wr ∧ ∀ j : Nat, j < k → gpK p L (coord a b c (j : Int)) = true) (fun i _ => 3 - (intOf i).toNat)
    case atStart => exact ⟨0, _, _, by omega, rfl, HO2.out, Below.refl _ _, fun j hj => absurd hj (Nat.not_lt_zero j)⟩
    case round =>
      clear HO2 g0 g1 g2 g3
      obtain ⟨k, u, s, hk, rfl, hO, hB, hK⟩ := hrel
      have hbn : Below n w wr := HB3.out.trans (hB.mono (by omega))
      have HBN := Lib.hid hbn
      obtain ⟨g0, -, -, -⟩ := HG3.out.below hB (show n < q by omega)
      have hz0 : ∀ j, j < 3 → wr.cell? ⟨n + 1, j, none⟩ = some (.slice none 0 0) := fun j hj => by rw [hB.cell (p := ⟨n + 1, j, none⟩) hnq]; exact HZ3.out.1 j hj
      have hz1 : ∀ j, j < 3 → wr.frozen? ⟨n + 1, j, none⟩ = false := fun j hj => by rw [hB.frozen (p := ⟨n + 1, j, none⟩) hnq]; exact HZ3.out.2 j hj
      have HZR := Lib.hid (And.intro hz0 hz1)
      have hqw : q < wr.heap.size := hO.ltw
      have HO := Lib.hid hO
      have HBQ := Lib.hid hB
      have HK := Lib.hid hK
      clear hz0 hz1 hO hB hK
      by_cases hlt : k < 3
      · have hltp : (k : Int) < 3 := by omega
        have hk0 : (0 : Int) ≤ (k : Int) := by omega
        have ki := idxI a b c k hlt
        obtain ⟨b1, b2⟩ := HPL.out.2 k hlt
        obtain ⟨pk, hpk⟩ : ∃ pk, pk = coord a b c (k : Int) := ⟨_, rfl⟩
        rw [← hpk] at ki b1 b2
        have HPK := Lib.hid hpk
        clear hpk hbn
        by_cases hneg : pk < 0
        · have hp1 : pk = -1 := by omega
          have HK1 := Lib.hid (show ∀ j : Nat, j < k + 1 → gpK p L (coord a b c (j : Int)) = true from fun j hj => by
            by_cases e : j < k
            · exact HK.out j e
            · have : j = k := by omega
              subst this
              rw [← HPK.out]
              unfold gpK
              rw [decide_eq_true hneg]
              rfl)
          have HO1 := Lib.hid (HO.out.skip hlt (show gpR p L (coord a b c (k : Int)) = [] by rw [← HPK.out]; unfold gpR; rw [if_pos hneg]))
          subst hp1
          go_wp2_with fail
          go_roundw
          case rel => exact ⟨k + 1, _, _, by omega, by go_num, HO1.out, HBQ.out, HK1.out⟩
          case measure => simp [intOf]; omega
        · obtain ⟨m, rfl⟩ := Int.eq_ofNat_of_zero_le (show 0 ≤ pk by omega)
          have hmn : m < L.length := by omega
          have hm0 : (0 : Int) ≤ (m : Int) := by omega
          have hwm : IntKind.i64.wrap ((m : Int) + 1) = ((m + 1 : Nat) : Int) := by rw [IntWalk.i64_in _ (by omega)]; simp
          have hmc : (m : Int) + 1 ≤ (c9 : Int) := by omega
          have hmc2 : m + 1 ≤ c9 := by omega
          have hne : ¬ (m : Int) = -1 := by omega
          have hne2 : ((m : Int) == -1) = false := by simp
          have HPC := Lib.hid (iPolyOfCircuit p (.slice (some ⟨g9, o9, none⟩) (m + 1) c9) (L.take (m + 1)) wr (gats_pre (HQ.out.below (HN.out ▸ HBN.out)) (by omega)))
          have HRK := Lib.hid (show gpR p L (coord a b c (k : Int)) = pcV p (L.take (m + 1)) ∧ gpK p L (coord a b c (k : Int)) = pcOk p (L.take (m + 1)) by
            rw [← HPK.out]
            unfold gpR gpK gpT
            rw [if_neg hneg, decide_eq_false hneg, Int.toNat_natCast]
            exact ⟨rfl, rfl⟩)
          go_wp2_with fail
          refine HPC.out.mono ?_
          rintro e w5 ⟨u5, rfl, ho5, hb5⟩
          obtain ⟨a5, n5, c5, rfl⟩ : ∃ a n c, u5 = .slice a n c := by
            obtain ⟨_, a, c, hv, _⟩ := ho5
            exact ⟨_, _, _, hv⟩
          have HO5 := Lib.hid (HO.out.below hb5)
          have hs5 := hb5.size
          have HBQ5 := Lib.hid (HBQ.out.trans (hb5.mono (by omega)))
          have HOW := Lib.hid ho5
          have hz0 : ∀ j, j < 3 → w5.cell? ⟨n + 1, j, none⟩ = some (.slice none 0 0) := fun j hj => by rw [hb5.cell (p := ⟨n + 1, j, none⟩) (by show n + 1 < _; omega)]; exact HZR.out.1 j hj
          have hz1 : ∀ j, j < 3 → w5.frozen? ⟨n + 1, j, none⟩ = false := fun j hj => by rw [hb5.frozen (p := ⟨n + 1, j, none⟩) (by show n + 1 < _; omega)]; exact HZR.out.2 j hj
          clear hb5 ho5 g0
          cases hok : pcOk p (L.take (m + 1))
          · have HNO := Lib.hid (show gpB p L a b c = false ∧ ∀ k, gpV p L a b c k = [] by
              have e1 : gpK p L (coord a b c (k : Int)) = false := by rw [HRK.out.2, hok]
              have e : gpB p L a b c = false := by
                unfold gpB
                have h3 : k = 0 ∨ k = 1 ∨ k = 2 := by omega
                rcases h3 with rfl | rfl | rfl
                · rw [show gpK p L a = false from e1]; simp
                · rw [show gpK p L b = false from e1]; simp
                · rw [show gpK p L c = false from e1]; simp
              exact ⟨e, fun k => by unfold gpV; rw [e]; rfl⟩)
            have y0 := hz1 0 (by omega)
            have y1 := hz1 1 (by omega)
            have y2 := hz1 2 (by omega)
            have z0 := hz0 0 (by omega)
            have z1 := hz0 1 (by omega)
            have z2 := hz0 2 (by omega)
            have HBN5 := Lib.hid (HB3.out.trans (HBQ5.out.mono (by omega)))
            have hn5 : n + 1 < w5.heap.size := by omega
            have ne0 : n < w5.heap.size := by omega
            have ne1 : n < w5.heap.size + 1 := by omega
            have ne2 : n + 1 < w5.heap.size + 1 := by omega
            have ne3 : n + 1 < w5.heap.size + 1 + 1 := by omega
            clear hz0 hz1 hok
            go_wp2_with fail
            refine bodyPost_ret (v := .tuple #[.agg #[.slice none 0 0, .slice none 0 0, .slice none 0 0], .bool false]) (by simp [results, Try.results66, go_sem, z0, z1, z2]) rfl ?_
            rw [HNO.out.1]
            refine ⟨fun _ => (none, 0, 0), fun _ => w.heap.size, rfl, Nat.le_refl _, fun _ => Nat.le_refl _, ?hs, fun j hj => ⟨by show OwnTrms _ _ _ (gpV p L a b c (coord a b c (j : Int))); rw [HNO.out.2 (coord a b c (j : Int))]; exact own_nil rfl, .inl (HNO.out.2 _)⟩, ?hb⟩
            case hs =>
              have hz := (HBN5.out).size
              simp only [World.size_setCell]
              omega
            case hb =>
              rw [← HN.out]
              repeat (first | exact HBN5.out | (refine Below.setCell ?_ (by first | omega | (simp; done) | (simp; omega)) _) | (refine Below.alloc ?_ (by first | omega | (simp; omega)) _))
          · have HK1 := Lib.hid (show ∀ j : Nat, j < k + 1 → gpK p L (coord a b c (j : Int)) = true from fun j hj => by
              by_cases e : j < k
              · exact HK.out j e
              · have : j = k := by omega
                subst this
                rw [HRK.out.2, hok])
            have HP := Lib.hid (HO5.out.put (t := (a5, n5, c5)) (B := wr.heap.size) hlt (by rw [show gpR p L (coord a b c (k : Int)) = pcV p (L.take (m + 1)) from HRK.out.1]; exact HOW.out) HO.out.top hs5)
            have HB6 := Lib.hid (show Below q w3 (w5.setCell ⟨q, k, none⟩ (slV (a5, n5, c5))) from HBQ5.out.setCell (Nat.le_refl _) _)
            rw [show slV (a5, n5, c5) = .slice a5 n5 c5 from rfl] at HP HB6
            have x0 : w5.cell? ⟨q, k, none⟩ = some (.slice (u k).1 (u k).2.1 (u k).2.2) := HO5.out.c k hlt
            have y0 := HO5.out.f k hlt
            clear hz0 hz1 hok
            go_wp2_with fail
            go_roundw
            case rel => exact ⟨k + 1, _, _, by omega, by go_num, HP.out, HB6.out, HK1.out⟩
            case measure => simp [intOf]; omega
      · have hk3 : k = 3 := by omega
        subst hk3
        have HYES := Lib.hid (show gpB p L a b c = true ∧ ∀ k, gpV p L a b c k = gpR p L k by
          have e : gpB p L a b c = true := by
            unfold gpB
            rw [HGV.out, show gpK p L a = true from HK.out 0 (by omega), show gpK p L b = true from HK.out 1 (by omega), show gpK p L c = true from HK.out 2 (by omega)]
            rfl
          exact ⟨e, fun k => by unfold gpV; rw [if_pos e]⟩)
        obtain ⟨t0, ht0⟩ : ∃ t, t = u 0 := ⟨_, rfl⟩
        obtain ⟨t1, ht1⟩ : ∃ t, t = u 1 := ⟨_, rfl⟩
        obtain ⟨t2, ht2⟩ : ∃ t, t = u 2 := ⟨_, rfl⟩
        have x0 : wr.cell? ⟨q, 0, none⟩ = some (.slice t0.1 t0.2.1 t0.2.2) := by rw [ht0]; exact HO.out.c 0 (by omega)
        have x1 : wr.cell? ⟨q, 1, none⟩ = some (.slice t1.1 t1.2.1 t1.2.2) := by rw [ht1]; exact HO.out.c 1 (by omega)
        have x2 : wr.cell? ⟨q, 2, none⟩ = some (.slice t2.1 t2.2.1 t2.2.2) := by rw [ht2]; exact HO.out.c 2 (by omega)
        have y0 := HZR.out.2 0 (by omega)
        have y1 := HZR.out.2 1 (by omega)
        have y2 := HZR.out.2 2 (by omega)
        have z0 := HZR.out.1 0 (by omega)
        have z1 := HZR.out.1 1 (by omega)
        have z2 := HZR.out.1 2 (by omega)
        have HTT := Lib.hid (And.intro ht0 (And.intro ht1 ht2))
        have hns : n + 1 < s 0 := by have := HO.out.lt; omega
        clear ht0 ht1 ht2 g0
        go_wp2_with fail
        refine bodyPost_ret (v := .tuple #[.agg #[.slice t0.1 t0.2.1 t0.2.2, .slice t1.1 t1.2.1 t1.2.2, .slice t2.1 t2.2.1 t2.2.2], .bool true]) (by simp [results, Try.results66, go_sem, z0, z1, z2]) rfl ?_
        rw [HYES.out.1]
        have hf : ∀ (x0 x1 x2 : Value) (B : Nat) (vv : Value) (M : List Trm), n + 1 < B → OwnTrms wr B vv M → OwnTrms (((wr.setCell ⟨n + 1, 0, none⟩ x0).setCell ⟨n + 1, 1, none⟩ x1).setCell ⟨n + 1, 2, none⟩ x2) B vv M := fun x0 x1 x2 B vv M hB hh => ((hh.far hB _ _).far hB _ _).far hB _ _
        refine ⟨u, s, by rw [HTT.out.1, HTT.out.2.1, HTT.out.2.2], by rw [← HN.out]; omega, HO.out.mono, ?hs, fun j hj => ⟨hf _ _ _ _ _ _ ?hl ?ho, ?hi⟩, ?hb⟩
        case hs => simpa using HO.out.top
        case hl => have := OutT.up HO.out.mono 0 j; rw [Nat.zero_add] at this; omega
        case ho => show OwnTrms _ _ _ (gpV p L a b c (coord a b c (j : Int))); rw [show gpV p L a b c (coord a b c (j : Int)) = gpR p L (coord a b c (j : Int)) from HYES.out.2 _]; exact (HO.out.own j hj).1
        case hi => show LieT _ (gpV p L a b c (coord a b c (j : Int))) _; rw [show gpV p L a b c (coord a b c (j : Int)) = gpR p L (coord a b c (j : Int)) from HYES.out.2 _]; exact (HO.out.own j hj).2
        case hb =>
          rw [← HN.out]
          repeat (first | exact HBN.out | (refine Below.setCell ?_ (by first | omega | (simp; done) | (simp; omega)) _))
end Go.Proofs.Ytibghhkhnpjdfaa
namespace Go.Proofs.Ytibghhkhnpjdfaa
open Go.RowKit
theorem markTkeep (v : Value) (L : List Trm) (B C : Nat) (k : Int) (w : World) (h4 : OwnTrms w B v L) (hC : LieT v L C) (hk0 : 0 ≤ k) (hk1 : k ≤ 1000000000000) :
    Calls Try.prog 154 #[v, .int .i64 k] w fun e w' => e = .returned (.int .i64 (k + 4 * (L.length : Int))) ∧ HeldT w' B v L.length k ∧ Betw B C w w' := by
  obtain ⟨h1, a, cap, rfl, h2⟩ := h4
  have hn : L = [] → Calls Try.prog 154 #[.slice a L.length cap, .int .i64 k] w fun e w' => e = .returned (.int .i64 (k + 4 * (L.length : Int))) ∧ HeldT w' B (.slice a L.length cap) L.length k ∧ Betw B C w w' := by
    rintro rfl
    refine (markTnil a cap k w).mono ?_
    rintro e w' ⟨rfl, rfl⟩
    exact ⟨by simp, ⟨by simp, a, cap, rfl, .inl rfl⟩, rfl, rfl, rfl, rfl, fun _ _ => rfl⟩
  rcases h2 with h2 | ⟨g, off, rfl, hB, hg, hc, hf⟩
  · exact hn h2
  · rcases hC with hC | ⟨g', off', n', cap', e, hgC⟩
    · exact hn hC
    · injection e with e _ _
      injection e with e
      injection e with e _ _
      subst e
      refine (markT g off L.length cap k w h1 hk0 hk1 (fun i hi => ?_) hf).mono ?_
      · obtain ⟨t0, t1, t2, t3⟩ := hc (i / 4) (by omega)
        have : i = i / 4 * 4 ∨ i = i / 4 * 4 + 1 ∨ i = i / 4 * 4 + 2 ∨ i = i / 4 * 4 + 3 := by omega
        rcases this with e | e | e | e
        · rw [e]; exact ⟨_, t0⟩
        · rw [e, ← Nat.add_assoc]; exact ⟨_, t1⟩
        · rw [e, ← Nat.add_assoc]; exact ⟨_, t2⟩
        · rw [e, ← Nat.add_assoc]; exact ⟨_, t3⟩
      · rintro e w' ⟨rfl, hM⟩
        exact ⟨rfl, ⟨h1, _, cap, rfl, .inr ⟨g, off, rfl, hB, by rw [hM.size]; exact hg, hM.done⟩⟩, hM.os, hM.tape, hM.output, hM.size, fun b hb => hM.far b (by omega)⟩
/-- what is held lies where nothing changes -/
theorem HeldT.stay {w w' : World} {B s n : Nat} {v : Value} {L : List Trm} {k : Int} (h : HeldT w B v n k) (hn : n = L.length) (hl : LieT v L s) (hs : w.heap.size ≤ w'.heap.size) (hb : ∀ b, B ≤ b → b < s → w'.heap[b]? = w.heap[b]?) : HeldT w' B v n k := by
  obtain ⟨h1, a, cap, rfl, h2⟩ := h
  refine ⟨h1, a, cap, rfl, ?_⟩
  rcases h2 with h2 | ⟨g, off, rfl, hB, hg, hc⟩
  · exact .inl h2
  · rcases hl with hl | ⟨g', off', n', cap', e, hgC⟩
    · subst hl; exact .inl (by simpa using hn)
    · injection e with e _ _
      injection e with e
      injection e with e _ _
      subst e
      have e := hb g hB hgC
      refine .inr ⟨g, off, rfl, hB, by omega, fun i hi => ?_⟩
      have hh := hc i hi
      unfold TAt at hh ⊢
      obtain ⟨t0, t1, t2, t3⟩ := hh
      exact ⟨by rw [World.cell?_of_block (a := ⟨g, _, none⟩) e]; exact t0, by rw [World.cell?_of_block (a := ⟨g, _, none⟩) e]; exact t1, by rw [World.cell?_of_block (a := ⟨g, _, none⟩) e]; exact t2, by rw [World.cell?_of_block (a := ⟨g, _, none⟩) e]; exact t3⟩
theorem ag_at (u : Nat → Option Addr × Nat × Nat) (w : World) (ty : TypeId) (j : Nat) (hj : j < 3) : (w.alloc (Obj.cells #[.slice (u 0).1 (u 0).2.1 (u 0).2.2, .slice (u 1).1 (u 1).2.1 (u 1).2.2, .slice (u 2).1 (u 2).2.1 (u 2).2.2] ty)).cell? ⟨w.heap.size, j, none⟩ = some (.slice (u j).1 (u j).2.1 (u j).2.2) := by
  have h3 : j = 0 ∨ j = 1 ∨ j = 2 := by omega
  rcases h3 with rfl | rfl | rfl <;> simp [go_sem]
set_option maxRecDepth 100000 in
set_option maxHeartbeats 4000000 in
theorem eqPA3 (u v : Nat → Option Addr × Nat × Nat) (P : Nat → List Trm) (w : World) (h1 : ∀ j, j < 3 → Trms w (slV (u j)) (P j)) (h2 : ∀ j, j < 3 → Trms w (slV (v j)) (P j)) :
    Calls Try.prog 67 #[agV u, agV v] w fun e w' => e = .returned (.bool true) ∧ Below w.heap.size w w' := by
  obtain ⟨n, hn⟩ : ∃ n, n = w.heap.size := ⟨_, rfl⟩
  obtain ⟨W1, hW1⟩ : ∃ W1, W1 = w.alloc (Obj.cells #[.slice (u 0).1 (u 0).2.1 (u 0).2.2, .slice (u 1).1 (u 1).2.1 (u 1).2.2, .slice (u 2).1 (u 2).2.1 (u 2).2.2] 74) := ⟨_, rfl⟩
  obtain ⟨W, hW⟩ : ∃ W, W = W1.alloc (Obj.cells #[.slice (v 0).1 (v 0).2.1 (v 0).2.2, .slice (v 1).1 (v 1).2.1 (v 1).2.2, .slice (v 2).1 (v 2).2.1 (v 2).2.2] 74) := ⟨_, rfl⟩
  have s1 : W1.heap.size = n + 1 := by rw [hW1, hn]; simp
  have s2 : W.heap.size = n + 2 := by rw [hW]; simp [s1]
  have b1 : Below n w W1 := by rw [hW1, hn]; exact (by repeat (first | exact Below.refl _ _ | apply Below.drew | apply below_drewN | (refine Below.alloc ?_ (by first | omega | (simp <;> omega)) _)))
  have b2 : Below W1.heap.size W1 W := by rw [hW]; exact (by repeat (first | exact Below.refl _ _ | apply Below.drew | apply below_drewN | (refine Below.alloc ?_ (by first | omega | (simp <;> omega)) _)))
  have bW : Below n w W := b1.trans (b2.mono (by omega))
  have hA : ∀ j, j < 3 → W.cell? ⟨n, j, none⟩ = some (.slice (u j).1 (u j).2.1 (u j).2.2) := fun j hj => by
    rw [b2.cell (p := ⟨n, j, none⟩) (by show n < _; omega), hW1, hn]
    exact ag_at u w _ j hj
  have hB : ∀ j, j < 3 → W.cell? ⟨n + 1, j, none⟩ = some (.slice (v j).1 (v j).2.1 (v j).2.2) := fun j hj => by
    rw [hW, ← s1]
    exact ag_at v W1 _ j hj
  have HF := Lib.hid (fun w' (hb : Below W.heap.size W w') j (hj : j < 3) => show (w'.cell? ⟨n, j, none⟩ = some (.slice (u j).1 (u j).2.1 (u j).2.2) ∧ w'.cell? ⟨n + 1, j, none⟩ = some (.slice (v j).1 (v j).2.1 (v j).2.2)) ∧ Trms w' (slV (u j)) (P j) ∧ Trms w' (slV (v j)) (P j) from
    ⟨⟨by rw [hb.cell (p := ⟨n, j, none⟩) (by show n < _; omega)]; exact hA j hj, by rw [hb.cell (p := ⟨n + 1, j, none⟩) (by show n + 1 < _; omega)]; exact hB j hj⟩, (h1 j hj).below ((hn ▸ bW).trans (hb.mono (by omega))), (h2 j hj).below ((hn ▸ bW).trans (hb.mono (by omega)))⟩)
  have HW := Lib.hid (show W = (w.alloc (Obj.cells #[.slice (u 0).1 (u 0).2.1 (u 0).2.2, .slice (u 1).1 (u 1).2.1 (u 1).2.2, .slice (u 2).1 (u 2).2.1 (u 2).2.2] 74)).alloc (Obj.cells #[.slice (v 0).1 (v 0).2.1 (v 0).2.2, .slice (v 1).1 (v 1).2.1 (v 1).2.2, .slice (v 2).1 (v 2).2.1 (v 2).2.2] 74) by rw [hW, hW1])
  have HB := Lib.hid bW
  have HN := Lib.hid hn
  have HS2 := Lib.hid s2
  unfold agV
  rw [← hn]
  clear hW1 hW s1 s2 b1 b2 bW hA hB h1 h2 hn
  go_enter Try.func67, Try.ntmps67
  go_upto_region 1 with fail
  rw [← HW.out, ← HN.out]
  clear HW
  go_wp2_with fail
  go_loopw [5] (fun i wr => ∃ k : Nat, k ≤ 3 ∧ i = .int .i64 k ∧ Below W.heap.size W wr) (fun i _ => 3 - (intOf i).toNat)
  case atStart => exact ⟨0, by omega, rfl, Below.refl _ _⟩
  case round =>
    obtain ⟨k, hk, rfl, hb⟩ := hrel
    have hs := hb.size
    have HBR := Lib.hid hb
    clear hb
    by_cases hlt : k < 3
    · have hltp : (k : Int) < 3 := by omega
      have hk0 : (0 : Int) ≤ (k : Int) := by omega
      have HFR := Lib.hid (fun w' (h : Below wr.heap.size wr w') => HF.out w' (HBR.out.trans (h.mono hs)) k hlt)
      go_wp2_with fail
      refine wp_region_seq [(0, true), (1, true), (2, true), (3, true), (4, true), (5, true), (6, false)] (fun w' => w'.cell? ⟨n, k, none⟩ = some (.slice (u k).1 (u k).2.1 (u k).2.2) ∧ w'.cell? ⟨n + 1, k, none⟩ = some (.slice (v k).1 (v k).2.1 (v k).2.2)) (by kernel_rfl) (by kernel_rfl) rfl (by intro c a d v w h; cases d <;> exact h) (HFR.out _ (Below.drew (Below.refl _ _))).1 ?_
      iterate 6 (refine wpSeq_take (v := ?_) (List.getElem?_toArray.trans rfl) ?_ ?_; rotate_left; (intro w' hSw; (try dsimp only at hSw); go_simp; (try with_reducible rfl)); (try simp only [Act.put, List.setIfInBounds_toArray, List.set_cons_zero, List.set_cons_succ]))
      refine wpSeq_do (List.getElem?_toArray.trans rfl) (fun K hK => ?_)
      go_simp
      have hdr : Below wr.heap.size wr wr.drew := Below.drew (Below.refl _ _)
      refine (eqP _ _ (P k) _ (HFR.out _ hdr).2.1 (HFR.out _ hdr).2.2).mono ?_
      rintro e w3 ⟨rfl, hb3⟩
      have b3 : Below wr.heap.size wr w3 := hdr.trans (hb3.mono (by simp))
      have HB3 := Lib.hid (HBR.out.trans (b3.mono hs))
      refine hK _ _ (HFR.out _ b3).1 ?_
      clear hK K hb3 b3 hdr
      refine wpSeq_nil ?_
      simp only [Exit.then]
      go_wp2_with fail
      go_roundw
      case rel => exact ⟨k + 1, by omega, by go_num, HB3.out⟩
      case measure => simp [intOf]; omega
    · have hk3 : k = 3 := by omega
      subst hk3
      go_wp2_with fail
      go_ret
      exact ⟨rfl, HB.out.trans (HBR.out.mono (by have := HS2.out; omega))⟩
/-- the mark behind the first slices -/
def mkN (P : Nat → List Trm) (k : Int) : Nat → Int
  | 0 => k
  | j + 1 => mkN P k j + 4 * ((P j).length : Int)
theorem mkN_bd {P : Nat → List Trm} {k : Int} (h0 : 0 ≤ k) (h1 : k ≤ 1000) (hl : ∀ j, j < 3 → (P j).length ≤ 1048576) : ∀ j, j ≤ 3 → 0 ≤ mkN P k j ∧ mkN P k j ≤ 1000 + 4194304 * (j : Int)
  | 0, _ => ⟨h0, by simpa [mkN] using h1⟩
  | j + 1, hj => by
    have := mkN_bd h0 h1 hl j (by omega)
    have := hl j (by omega)
    unfold mkN
    constructor
    · omega
    · push_cast; omega
set_option maxRecDepth 100000 in
set_option maxHeartbeats 4000000 in
theorem markPA3 (u : Nat → Option Addr × Nat × Nat) (P : Nat → List Trm) (s : Nat → Nat) (k0 : Int) (w : World) (h : ∀ j, j < 3 → OwnTrms w (s j) (slV (u j)) (P j) ∧ LieT (slV (u j)) (P j) (s (j + 1))) (hm : ∀ j, s j ≤ s (j + 1)) (ht : s 3 ≤ w.heap.size) (hk0 : 0 ≤ k0) (hk1 : k0 ≤ 1000) :
    Calls Try.prog 70 #[agV u, .int .i64 k0] w fun e w' => e = .returned (.int .i64 (mkN P k0 3)) ∧ (∀ j, j < 3 → HeldT w' (s j) (slV (u j)) (P j).length (mkN P k0 j)) ∧ Below (s 0) w w' ∧ ∀ b, s 3 ≤ b → b < w.heap.size → w'.heap[b]? = w.heap[b]? := by
  have hl : ∀ j, j < 3 → (P j).length ≤ 1048576 := fun j hj => (h j hj).1.1
  have HMB := Lib.hid (mkN_bd hk0 hk1 hl)
  have hup := OutT.up hm
  have h03 : s 0 ≤ s 3 := by have := hup 0 3; rwa [Nat.zero_add] at this
  obtain ⟨n, hn⟩ : ∃ n, n = w.heap.size := ⟨_, rfl⟩
  obtain ⟨W, hW⟩ : ∃ W, W = w.alloc (Obj.cells #[.slice (u 0).1 (u 0).2.1 (u 0).2.2, .slice (u 1).1 (u 1).2.1 (u 1).2.2, .slice (u 2).1 (u 2).2.1 (u 2).2.2] 74) := ⟨_, rfl⟩
  have sW : W.heap.size = n + 1 := by rw [hW, hn]; simp
  have bW : Below n w W := by rw [hW, hn]; exact (by repeat (first | exact Below.refl _ _ | apply Below.drew | apply below_drewN | (refine Below.alloc ?_ (by first | omega | (simp <;> omega)) _)))
  have hA : ∀ j, j < 3 → W.cell? ⟨n, j, none⟩ = some (.slice (u j).1 (u j).2.1 (u j).2.2) := fun j hj => by rw [hW, hn]; exact ag_at u w _ j hj
  have HA := Lib.hid hA
  have HOW := Lib.hid (fun j (hj : j < 3) => (h j hj).1.below (hn ▸ bW))
  have HLI := Lib.hid (fun j (hj : j < 3) => (h j hj).2)
  have HUP := Lib.hid (And.intro hm hup)
  have HW := Lib.hid hW
  have HB := Lib.hid bW
  have HN := Lib.hid hn
  have hsn : s 3 ≤ n := by omega
  unfold agV
  clear hW bW hA hm hup hn h ht hl
  go_enter Try.func70, Try.ntmps70
  go_upto_region 1 with fail
  rw [← HW.out, ← HN.out]
  clear HW
  go_wp2_with fail
  go_loopw [1, 5] (fun kk i wr => ∃ j : Nat, j ≤ 3 ∧ i = .int .i64 j ∧ kk = .int .i64 (mkN P k0 j) ∧ (∀ i, i < j → HeldT wr (s i) (slV (u i)) (P i).length (mkN P k0 i)) ∧ (∀ i, j ≤ i → i < 3 → OwnTrms wr (s i) (slV (u i)) (P i)) ∧ Below (s 0) W wr ∧ (∀ b, s 3 ≤ b → b < W.heap.size → wr.heap[b]? = W.heap[b]?) ∧ wr.heap.size = W.heap.size) (fun _ i _ => 3 - (intOf i).toNat)
  case atStart => exact ⟨0, by omega, rfl, rfl, fun i hi => absurd hi (Nat.not_lt_zero i), fun i _ hi => HOW.out i hi, Below.refl _ _, fun _ _ _ => rfl, rfl⟩
  case round =>
    clear HOW
    obtain ⟨j, hj, rfl, rfl, hd, ho, hlow, hst, hsz⟩ := hrel
    have HD := Lib.hid hd
    have HO := Lib.hid ho
    have HL := Lib.hid hlow
    have HST := Lib.hid hst
    have HSZ := Lib.hid hsz
    have hnl : n < W.heap.size := by omega
    have hcell : ∀ j, j < 3 → wr.cell? ⟨n, j, none⟩ = some (.slice (u j).1 (u j).2.1 (u j).2.2) := fun j hj => by rw [World.cell?_of_block (a := ⟨n, j, none⟩) (hst n hsn hnl)]; exact HA.out j hj
    have HCE := Lib.hid hcell
    clear hd ho hlow hst hsz hcell sW hnl
    by_cases hlt : j < 3
    · have hltp : (j : Int) < 3 := by omega
      have hj0 : (0 : Int) ≤ (j : Int) := by omega
      have c0 := HCE.out j hlt
      obtain ⟨km, hkm⟩ : ∃ km, km = mkN P k0 j := ⟨_, rfl⟩
      have hkb := HMB.out j hj
      rw [← hkm] at hkb ⊢
      have HM := Lib.hid (markTkeep (slV (u j)) (P j) (s j) (s (j + 1)) km wr (HO.out j (Nat.le_refl _) hlt) (HLI.out j hlt) hkb.1 (by omega))
      obtain ⟨kn, hkn⟩ : ∃ kn, kn = km + 4 * ((P j).length : Int) := ⟨_, rfl⟩
      have HKM := Lib.hid hkm
      have HKN := Lib.hid (show kn = mkN P k0 (j + 1) by rw [hkn, hkm]; rfl)
      rw [← hkn] at HM
      clear hkm hkn hkb
      go_wp2_with fail
      refine HM.out.mono ?_
      rintro e w3 ⟨rfl, hh, hbt⟩
      have HH := Lib.hid (show (∀ i, i < j + 1 → HeldT w3 (s i) (slV (u i)) (P i).length (mkN P k0 i)) ∧ (∀ i, j + 1 ≤ i → i < 3 → OwnTrms w3 (s i) (slV (u i)) (P i)) ∧ Below (s 0) W w3 ∧ (∀ b, s 3 ≤ b → b < W.heap.size → w3.heap[b]? = W.heap[b]?) ∧ w3.heap.size = W.heap.size from by
        have hsj : s (j + 1) ≤ s 3 := by
          have := HUP.out.2 (j + 1) (3 - (j + 1))
          rwa [show j + 1 + (3 - (j + 1)) = 3 by omega] at this
        have hs0 : s 0 ≤ s j := by have := HUP.out.2 0 j; rwa [Nat.zero_add] at this
        refine ⟨fun i hi => ?_, fun i h1 h2 => ?_, HL.out.trans (hbt.low.mono hs0), fun b h1 h2 => (hbt.block b (.inr (by omega))).trans (HST.out b h1 h2), hbt.size.trans HSZ.out⟩
        · by_cases e : i < j
          · have hsi : s (i + 1) ≤ s j := by
              have := HUP.out.2 (i + 1) (j - (i + 1))
              rwa [show i + 1 + (j - (i + 1)) = j by omega] at this
            exact (HD.out i e).stay rfl (HLI.out i (by omega)) (by rw [hbt.size]; exact Nat.le_refl _) (fun b _ hb2 => hbt.block b (.inl (by omega)))
          · have : i = j := by omega
            subst this
            rw [← HKM.out]
            exact hh
        · have hsi : s (j + 1) ≤ s i := by
            have := HUP.out.2 (j + 1) (i - (j + 1))
            rwa [show j + 1 + (i - (j + 1)) = i by omega] at this
          exact (HO.out i (by omega) h2).betw' hsi hbt)
      clear hh hbt c0
      go_wp2_with fail
      go_roundw
      case rel => exact ⟨j + 1, by omega, by go_num, by rw [HKN.out], HH.out⟩
      case measure => simp [intOf]; omega
    · have hj3 : j = 3 := by omega
      subst hj3
      go_wp2_with fail
      go_ret
      exact ⟨rfl, fun j hj => HD.out j hj, (HB.out.mono (by omega)).trans HL.out, fun b h1 h2 => (HST.out b h1 (by have := HB.out.size; omega)).trans (HB.out.block b (by rw [HN.out]; exact h2))⟩
set_option maxRecDepth 100000 in
set_option maxHeartbeats 4000000 in
theorem heldPA3 (u : Nat → Option Addr × Nat × Nat) (P : Nat → List Trm) (s : Nat → Nat) (k0 : Int) (w : World) (h : ∀ j, j < 3 → HeldT w (s j) (slV (u j)) (P j).length (mkN P k0 j)) (hk0 : 0 ≤ k0) (hk1 : k0 ≤ 1000) :
    Calls Try.prog 71 #[agV u, .int .i64 k0] w fun e w' => e = .returned (.int .i64 (mkN P k0 3)) ∧ Below w.heap.size w w' := by
  have hl : ∀ j, j < 3 → (P j).length ≤ 1048576 := fun j hj => (h j hj).1
  have HMB := Lib.hid (mkN_bd hk0 hk1 hl)
  obtain ⟨n, hn⟩ : ∃ n, n = w.heap.size := ⟨_, rfl⟩
  obtain ⟨W, hW⟩ : ∃ W, W = w.alloc (Obj.cells #[.slice (u 0).1 (u 0).2.1 (u 0).2.2, .slice (u 1).1 (u 1).2.1 (u 1).2.2, .slice (u 2).1 (u 2).2.1 (u 2).2.2] 74) := ⟨_, rfl⟩
  have bW : Below n w W := by rw [hW, hn]; exact (by repeat (first | exact Below.refl _ _ | apply Below.drew | apply below_drewN | (refine Below.alloc ?_ (by first | omega | (simp <;> omega)) _)))
  have HA := Lib.hid (show ∀ j, j < 3 → W.cell? ⟨n, j, none⟩ = some (.slice (u j).1 (u j).2.1 (u j).2.2) from fun j hj => by rw [hW, hn]; exact ag_at u w _ j hj)
  have HH := Lib.hid (fun j (hj : j < 3) => (h j hj).below (hn ▸ bW))
  have HW := Lib.hid hW
  have HB := Lib.hid bW
  have HN := Lib.hid hn
  unfold agV
  rw [← hn]
  clear hW bW hn h hl
  go_enter Try.func71, Try.ntmps71
  go_upto_region 1 with fail
  rw [← HW.out, ← HN.out]
  clear HW
  go_wp2_with fail
  go_loopw [1, 5] (fun kk i wr => ∃ j : Nat, j ≤ 3 ∧ i = .int .i64 j ∧ kk = .int .i64 (mkN P k0 j) ∧ wr = W) (fun _ i _ => 3 - (intOf i).toNat)
  case atStart => exact ⟨0, by omega, rfl, rfl, rfl⟩
  case round =>
    obtain ⟨j, hj, rfl, rfl, rfl⟩ := hrel
    by_cases hlt : j < 3
    · have hltp : (j : Int) < 3 := by omega
      have hj0 : (0 : Int) ≤ (j : Int) := by omega
      have c0 := HA.out j hlt
      obtain ⟨km, hkm⟩ : ∃ km, km = mkN P k0 j := ⟨_, rfl⟩
      have hkb := HMB.out j hj
      have hh := HH.out j hlt
      rw [← hkm] at hkb hh ⊢
      have HM := Lib.hid (heldTown _ _ (s j) km _ hh hkb.1 (by omega))
      obtain ⟨kn, hkn⟩ : ∃ kn, kn = km + 4 * ((P j).length : Int) := ⟨_, rfl⟩
      have HKN := Lib.hid (show kn = mkN P k0 (j + 1) by rw [hkn, hkm]; rfl)
      have hpos : ¬ kn < 0 := by omega
      rw [← hkn] at HM
      clear hkm hkn hkb hh
      go_wp2_with fail
      refine HM.out.mono ?_
      rintro e w3 ⟨rfl, rfl⟩
      go_wp2_with fail
      go_roundw
      case rel => exact ⟨j + 1, by omega, by go_num, by rw [HKN.out], by first | rfl | trivial⟩
      case measure => simp [intOf]; omega
    · have hj3 : j = 3 := by omega
      subst hj3
      go_wp2_with fail
      go_ret
      exact ⟨rfl, HB.out⟩
end Go.Proofs.Ytibghhkhnpjdfaa
namespace Go.Proofs.Ytibghhkhnpjdfaa
open Go.RowKit
/-- an array of slices in a box -/
def BxP (w : World) (q : Nat) (u : Nat → Option Addr × Nat × Nat) : Prop := (∀ j, j < 3 → w.cell? ⟨q, j, none⟩ = some (.slice (u j).1 (u j).2.1 (u j).2.2)) ∧ q < w.heap.size
theorem BxP.same {w w' : World} {q : Nat} {u : Nat → Option Addr × Nat × Nat} (h : BxP w q u) (e : w'.heap[q]? = w.heap[q]?) (hs : w.heap.size ≤ w'.heap.size) : BxP w' q u :=
  ⟨fun j hj => by rw [World.cell?_of_block (a := ⟨q, j, none⟩) e]; exact h.1 j hj, Nat.lt_of_lt_of_le h.2 hs⟩
theorem BxP.on {w w' : World} {q : Nat} {u : Nat → Option Addr × Nat × Nat} (h : BxP w q u) (hb : Below w.heap.size w w') : BxP w' q u := h.same (hb.block q h.2) hb.size
theorem BxP.new (w : World) (u : Nat → Option Addr × Nat × Nat) (ty : TypeId) : BxP (w.alloc (Obj.cells #[.slice (u 0).1 (u 0).2.1 (u 0).2.2, .slice (u 1).1 (u 1).2.1 (u 1).2.2, .slice (u 2).1 (u 2).2.1 (u 2).2.2] ty)) w.heap.size u :=
  ⟨fun j hj => ag_at u w ty j hj, by simp⟩
/-- a new block of three empty slices -/
structure ZP (w : World) (q : Nat) : Prop where
  c0 : w.cell? ⟨q, 0, none⟩ = some (.slice none 0 0)
  c1 : w.cell? ⟨q, 1, none⟩ = some (.slice none 0 0)
  c2 : w.cell? ⟨q, 2, none⟩ = some (.slice none 0 0)
  f : ∀ i, w.frozen? ⟨q, i, none⟩ = false
  lt : q < w.heap.size
theorem ZP.new (w : World) : ZP (w.alloc (Obj.cells #[.slice none 0 0, .slice none 0 0, .slice none 0 0] 74)) w.heap.size :=
  ⟨by simp [go_sem], by simp [go_sem], by simp [go_sem], fun i => World.frozen?_alloc_at _ _ _ i rfl, by simp⟩
theorem ZP.newd (w : World) : ZP (w.drew.alloc (Obj.cells #[.slice none 0 0, .slice none 0 0, .slice none 0 0] 74)) w.heap.size := ZP.new w.drew
theorem ZP.below {w w' : World} {q : Nat} (h : ZP w q) (hb : Below w.heap.size w w') : ZP w' q :=
  ⟨by rw [hb.cell (p := ⟨q, 0, none⟩) h.lt]; exact h.c0, by rw [hb.cell (p := ⟨q, 1, none⟩) h.lt]; exact h.c1, by rw [hb.cell (p := ⟨q, 2, none⟩) h.lt]; exact h.c2, fun i => by rw [hb.frozen (p := ⟨q, i, none⟩) h.lt]; exact h.f i, Nat.lt_of_lt_of_le h.lt hb.size⟩
theorem ZP.put {w : World} {q : Nat} (h : ZP w q) (u : Nat → Option Addr × Nat × Nat) : BxP (((w.setCell ⟨q, 0, none⟩ (.slice (u 0).1 (u 0).2.1 (u 0).2.2)).setCell ⟨q, 1, none⟩ (.slice (u 1).1 (u 1).2.1 (u 1).2.2)).setCell ⟨q, 2, none⟩ (.slice (u 2).1 (u 2).2.1 (u 2).2.2)) q u := by
  refine ⟨fun j hj => ?_, by simpa using h.lt⟩
  have h3 : j = 0 ∨ j = 1 ∨ j = 2 := by omega
  rcases h3 with rfl | rfl | rfl
  · rw [World.cell?_setCell_other _ _ _ _ (addr_ne (by omega)), World.cell?_setCell_other _ _ _ _ (addr_ne (by omega))]
    exact World.cell?_setCell_same _ _ _ h.c0
  · rw [World.cell?_setCell_other _ _ _ _ (addr_ne (by omega))]
    refine World.cell?_setCell_same _ _ _ (u := .slice none 0 0) ?_
    rw [World.cell?_setCell_other _ _ _ _ (addr_ne (by omega))]
    exact h.c1
  · refine World.cell?_setCell_same _ _ _ (u := .slice none 0 0) ?_
    rw [World.cell?_setCell_other _ _ _ _ (addr_ne (by omega)), World.cell?_setCell_other _ _ _ _ (addr_ne (by omega))]
    exact h.c2
theorem trms3 {w : World} {q : Nat} {v x0 x1 x2 : Value} {M : List Trm} {B : Nat} (h : OwnTrms w B v M) (hq : q < B) : Trms (((w.setCell ⟨q, 0, none⟩ x0).setCell ⟨q, 1, none⟩ x1).setCell ⟨q, 2, none⟩ x2) v M := (((h.far hq _ _).far hq _ _).far hq _ _).trms
theorem keepG1 {W w1 : World} {n : Nat} {v x y z : Value} (hb : Below W.heap.size W w1) (hn : n < W.heap.size) (h : W.cell? ⟨n, 0, none⟩ = some v ∧ W.cell? ⟨n, 1, none⟩ = some x ∧ W.cell? ⟨n, 2, none⟩ = some y ∧ W.cell? ⟨n, 3, none⟩ = some z) :
    w1.cell? ⟨n, 0, none⟩ = some v ∧ w1.cell? ⟨n, 1, none⟩ = some x ∧ w1.cell? ⟨n, 2, none⟩ = some y ∧ w1.cell? ⟨n, 3, none⟩ = some z := by
  obtain ⟨a, b, c, d⟩ := h
  exact ⟨by rw [hb.cell (p := ⟨n, 0, none⟩) hn]; exact a, by rw [hb.cell (p := ⟨n, 1, none⟩) hn]; exact b, by rw [hb.cell (p := ⟨n, 2, none⟩) hn]; exact c, by rw [hb.cell (p := ⟨n, 3, none⟩) hn]; exact d⟩
theorem cellA2 {W : World} {A B : Obj} {n i : Nat} (hn : n < W.heap.size) : (W.alloc B).cell? ⟨n, i, none⟩ = (W.alloc A).cell? ⟨n, i, none⟩ := by
  rw [(Below.alloc (Below.refl W.heap.size W) (Nat.le_refl _) B).cell (p := ⟨n, i, none⟩) hn, (Below.alloc (Below.refl W.heap.size W) (Nat.le_refl _) A).cell (p := ⟨n, i, none⟩) hn]
theorem keepG1a {W : World} {A B : Obj} {n : Nat} {v x y z : Value} (hn : n < W.heap.size) (h : (W.alloc A).cell? ⟨n, 0, none⟩ = some v ∧ (W.alloc A).cell? ⟨n, 1, none⟩ = some x ∧ (W.alloc A).cell? ⟨n, 2, none⟩ = some y ∧ (W.alloc A).cell? ⟨n, 3, none⟩ = some z) :
    (W.alloc B).cell? ⟨n, 0, none⟩ = some v ∧ (W.alloc B).cell? ⟨n, 1, none⟩ = some x ∧ (W.alloc B).cell? ⟨n, 2, none⟩ = some y ∧ (W.alloc B).cell? ⟨n, 3, none⟩ = some z := by
  rw [cellA2 (A := A) (B := B) hn, cellA2 (A := A) (B := B) hn, cellA2 (A := A) (B := B) hn, cellA2 (A := A) (B := B) hn]
  exact h
theorem keepG1s {W : World} {q n : Nat} {r0 r1 r2 : Value} {v x y z : Value} (hn : n ≠ q) (h : W.cell? ⟨n, 0, none⟩ = some v ∧ W.cell? ⟨n, 1, none⟩ = some x ∧ W.cell? ⟨n, 2, none⟩ = some y ∧ W.cell? ⟨n, 3, none⟩ = some z) :
    (((W.setCell ⟨q, 0, none⟩ r0).setCell ⟨q, 1, none⟩ r1).setCell ⟨q, 2, none⟩ r2).cell? ⟨n, 0, none⟩ = some v ∧ (((W.setCell ⟨q, 0, none⟩ r0).setCell ⟨q, 1, none⟩ r1).setCell ⟨q, 2, none⟩ r2).cell? ⟨n, 1, none⟩ = some x ∧ (((W.setCell ⟨q, 0, none⟩ r0).setCell ⟨q, 1, none⟩ r1).setCell ⟨q, 2, none⟩ r2).cell? ⟨n, 2, none⟩ = some y ∧ (((W.setCell ⟨q, 0, none⟩ r0).setCell ⟨q, 1, none⟩ r1).setCell ⟨q, 2, none⟩ r2).cell? ⟨n, 3, none⟩ = some z := by
  have far : ∀ i : Nat, (((W.setCell ⟨q, 0, none⟩ r0).setCell ⟨q, 1, none⟩ r1).setCell ⟨q, 2, none⟩ r2).cell? ⟨n, i, none⟩ = W.cell? ⟨n, i, none⟩ := fun i => by
    rw [World.cell?_setCell_other _ _ _ _ (addr_ne (by omega)), World.cell?_setCell_other _ _ _ _ (addr_ne (by omega)), World.cell?_setCell_other _ _ _ _ (addr_ne (by omega))]
  rw [far 0, far 1, far 2, far 3]
  exact h
set_option maxRecDepth 100000 in
set_option maxHeartbeats 16000000 in
theorem xGradientPolys_in (p : Int) (a : Option Addr) (L : List Gt) (c : Nat) (x y z : Int) (w : World) (h : Gats w (.slice a L.length c) L) :
    Calls Try.prog 10 #[.int .i64 p, .agg #[.slice a L.length c, .int .i64 x, .int .i64 y, .int .i64 z]] w fun e w' => e = .returned (.bool true) ∧ Below w.heap.size w w' := by
  have hl := h.1
  obtain ⟨n, hn⟩ : ∃ n, n = w.heap.size := ⟨_, rfl⟩
  obtain ⟨W, hW⟩ : ∃ W, W = w.alloc (Obj.cells #[.slice a L.length c, .int .i64 x, .int .i64 y, .int .i64 z] 72) := ⟨_, rfl⟩
  have hA : GrAt W n (.slice a L.length c) x y z := by rw [hW, hn]; refine ⟨?_, ?_, ?_, ?_⟩ <;> simp [go_sem]
  have bW : Below n w W := by rw [hW, hn]; exact (by repeat (first | exact Below.refl _ _ | apply Below.drew | apply below_drewN | (refine Below.alloc ?_ (by first | omega | (simp <;> omega)) _)))
  have hsW : n < W.heap.size := by rw [hW, hn]; simp
  have Q := Lib.hid (h.below (hn ▸ bW))
  have hm : ¬ (1048576 : Int) - (L.length : Int) < 0 := by omega
  have HS1 := Lib.hid (fun w => szGr a L.length c x y z w (by omega))
  have HA := Lib.hid hA
  have HB := Lib.hid bW
  have HW := Lib.hid hW
  have R := Lib.hid (Below.refl W.heap.size W)
  have HS := Lib.hid hsW
  have bb := bne_self2 (gpB p L x y z)
  obtain ⟨r, hr⟩ : ∃ r, r = gpB p L x y z := ⟨_, rfl⟩
  obtain ⟨P, hP⟩ : ∃ P : Nat → List Trm, P = fun j : Nat => gpV p L x y z (coord x y z (j : Int)) := ⟨_, rfl⟩
  have HIM := Lib.hid (fun f w (hc : CapOK f) (h : Gats w f L) => show Calls Try.prog 66 #[.int .i64 p, .agg #[f, .int .i64 x, .int .i64 y, .int .i64 z]] w (GivesPA P r w) by rw [hP, hr]; exact iGrPo p f L x y z w h hc)
  have HSP := Lib.hid (fun f w (hc : CapOK f) (h : Gats w f L) => show Calls Try.prog 64 #[.int .i64 p, .agg #[f, .int .i64 x, .int .i64 y, .int .i64 z]] w (GivesPA P r w) by rw [hP, hr]; exact sGrPo p f L x y z w h hc)
  rw [← hr] at bb
  rw [← hn]
  obtain ⟨a0, a1, a2, a3⟩ := hA
  clear hW h bW hsW hl hr hP
  go_enter Try.func10, Try.ntmps10
  go_wp2_with fail
  rw [← HW.out, ← hn]
  clear HW hn
  refine (HS1.out _).mono ?_
  rintro e w1 ⟨rfl, hb⟩
  replace R := Lib.hid (R.out.trans (hb.mono R.out.size))
  clear hb a0 a1 a2 a3
  obtain ⟨a0, a1, a2, a3⟩ := HA.out.below R.out HS.out
  have hn1 : n < w1.heap.size := by have := HS.out; have := R.out.size; omega
  clear a0 a1 a2 a3 hn1
  obtain ⟨a0, a1, a2, a3⟩ := HA.out.below R.out HS.out
  go_wp2_with fail
  refine (toGrc _ L x y z _ (Q.out.below R.out)).mono ?_
  rintro e w2 ⟨u2, rfl, hcp, ho, hb⟩
  replace R := Lib.hid (R.out.trans (hb.mono R.out.size))
  have S1 := Lib.hid (And.intro hcp ho.gats)
  clear hb ho hcp a0 a1 a2 a3
  go_wp2_with fail
  refine (HSP.out _ _ S1.out.1 S1.out.2).mono ?_
  rintro e w3 ⟨ua, sa, rfl, hs0, hsm, hst, hown, hb⟩
  replace R := Lib.hid (R.out.trans (hb.mono R.out.size))
  obtain ⟨qa, hqa⟩ : ∃ q, q = w3.heap.size := ⟨_, rfl⟩
  obtain ⟨U3, hU3⟩ : ∃ U, U = w3.alloc (Obj.cells #[.slice (ua 0).1 (ua 0).2.1 (ua 0).2.2, .slice (ua 1).1 (ua 1).2.1 (ua 1).2.2, .slice (ua 2).1 (ua 2).2.1 (ua 2).2.2] 74) := ⟨_, rfl⟩
  have b3 : Below w3.heap.size w3 U3 := by rw [hU3]; exact (by repeat (first | exact Below.refl _ _ | apply Below.drew | apply below_drewN | (refine Below.alloc ?_ (by first | omega | (simp <;> omega)) _)))
  have A0 := Lib.hid (show BxP U3 qa ua by rw [hU3, hqa]; exact BxP.new w3 ua _)
  have V0 := Lib.hid (fun j (hj : j < 3) => (hown j hj).1.trms.below b3)
  replace R := Lib.hid (R.out.trans (b3.mono R.out.size))
  have HU3 := Lib.hid hU3
  have Hqa := Lib.hid hqa
  have hq3 : qa < U3.heap.size := A0.out.2
  have hWq : W.heap.size ≤ U3.heap.size := R.out.size
  clear hs0 hsm hst hown hb hqa hU3 b3 S1
  go_upto_region 6 with fail
  rw [← HU3.out, ← Hqa.out]
  clear HU3 Hqa
  obtain ⟨a0, a1, a2, a3⟩ := HA.out.below R.out HS.out
  go_wp2_with fail
  refine (toGrc _ L x y z _ (Q.out.below R.out)).mono ?_
  rintro e w4 ⟨u4, rfl, hcp, ho, hb⟩
  obtain ⟨u4, rfl, b4, cap4, rfl⟩ := own_slice ho
  obtain ⟨m, hm4⟩ : ∃ m, m = w4.heap.size := ⟨_, rfl⟩
  obtain ⟨W5, hW5⟩ : ∃ W5, W5 = w4.alloc (Obj.cells #[.slice b4 L.length cap4, .int .i64 x, .int .i64 y, .int .i64 z] 78) := ⟨_, rfl⟩
  have b5 : Below w4.heap.size w4 W5 := by rw [hW5]; exact (by repeat (first | exact Below.refl _ _ | apply Below.drew | apply below_drewN | (refine Below.alloc ?_ (by first | omega | (simp <;> omega)) _)))
  have hs5 : W5.heap.size = m + 1 := by rw [hW5, hm4]; simp
  have HC := Lib.hid (show GBx W5 m (.slice b4 L.length cap4) x y z by rw [hW5, hm4]; exact GBx.new w4 _ x y z _)
  have hU4 : U3.heap.size ≤ m := by have := hb.size; omega
  have X5 := Lib.hid (show Below U3.heap.size U3 W5 from hb.trans (b5.mono (by omega)))
  have S5 := Lib.hid (show CapOK (.slice b4 L.length cap4) ∧ OwnGats W5 U3.heap.size (.slice b4 L.length cap4) L ∧ InB (.slice b4 L.length cap4) L m from ⟨hcp, ho.below b5, by have := ho.inB; rwa [← hm4] at this⟩)
  have HW5 := Lib.hid hW5
  have Hm4 := Lib.hid hm4
  clear hb ho hcp b5 hW5 hm4 a0 a1 a2 a3
  go_upto_region 7 with fail
  rw [← HW5.out, ← Hm4.out]
  clear HW5 Hm4
  obtain ⟨a0, a1, a2, a3⟩ := HC.out.1
  go_wp2_with fail
  refine (HIM.out _ _ S5.out.1 S5.out.2.1.gats).mono ?_
  rintro e w6 ⟨ug, sg, rfl, hs0, hsm, hst, hown, hb⟩
  obtain ⟨qg, hqg⟩ : ∃ q, q = w6.heap.size := ⟨_, rfl⟩
  obtain ⟨U7, hU7⟩ : ∃ U, U = w6.alloc (Obj.cells #[.slice (ug 0).1 (ug 0).2.1 (ug 0).2.2, .slice (ug 1).1 (ug 1).2.1 (ug 1).2.2, .slice (ug 2).1 (ug 2).2.1 (ug 2).2.2] 74) := ⟨_, rfl⟩
  have b7 : Below w6.heap.size w6 U7 := by rw [hU7]; exact (by repeat (first | exact Below.refl _ _ | apply Below.drew | apply below_drewN | (refine Below.alloc ?_ (by first | omega | (simp <;> omega)) _)))
  have X57 := hb.trans (b7.mono hb.size)
  have G0 := Lib.hid (show BxP U7 qg ug by rw [hU7, hqg]; exact BxP.new w6 ug _)
  have GO := Lib.hid (show (∀ j, j < 3 → OwnTrms U7 (sg j) (slV (ug j)) (P j) ∧ LieT (slV (ug j)) (P j) (sg (j + 1))) ∧ ∀ j, sg j ≤ sg (j + 1) from ⟨fun j hj => ⟨(hown j hj).1.below b7, (hown j hj).2⟩, hsm⟩)
  have hsg : m < sg 0 ∧ sg 3 ≤ qg := ⟨by omega, by omega⟩
  have hs7 : U7.heap.size = qg + 1 := by rw [hU7, hqg]; simp
  have hup : sg 0 ≤ sg 3 := by have := OutT.up hsm 0 3; rwa [Nat.zero_add] at this
  have X7 := Lib.hid (X5.out.trans (X57.mono (by omega)))
  have HC7 := Lib.hid (HC.out.on X57)
  have S7 := Lib.hid (S5.out.2.1.below X57)
  have HU7 := Lib.hid hU7
  have Hqg := Lib.hid hqg
  clear hs0 hsm hst hown hb hqg hU7 b7 X57 a0 a1 a2 a3
  go_upto_region 8 with fail
  rw [← HU7.out, ← Hqg.out]
  clear HU7 Hqg
  have hU37 : U3.heap.size ≤ U7.heap.size := X7.out.size
  have HX := Lib.hid (fun w' (h : Below U7.heap.size U7 w') => show Below U3.heap.size U3 w' ∧ GrAt w' n (.slice a L.length c) x y z ∧ GrAt w' m (.slice b4 L.length cap4) x y z ∧ BxP w' qa ua ∧ BxP w' qg ug ∧ (∀ j, j < 3 → Trms w' (slV (ua j)) (P j)) ∧ (∀ j, j < 3 → OwnTrms w' (sg j) (slV (ug j)) (P j)) ∧ OwnGats w' U3.heap.size (.slice b4 L.length cap4) L ∧ Gats w' (.slice a L.length c) L ∧ Below W.heap.size W w' from by
    have hx : Below U3.heap.size U3 w' := X7.out.trans (h.mono hU37)
    have hr : Below W.heap.size W w' := R.out.trans (hx.mono hWq)
    exact ⟨hx, HA.out.below hr HS.out, HC7.out.1.below h (by omega), A0.out.on hx, G0.out.on h, fun j hj => (V0.out j hj).below hx, fun j hj => (GO.out.1 j hj).1.below h, S7.out.below h, Q.out.below hr, hr⟩)
  have hx0 := HX.out U7 (Below.refl _ _)
  obtain ⟨-, -, -, A1, G1, V1, O1, -⟩ := hx0
  have HVV := Lib.hid (And.intro V1 O1)
  have c0 := A1.1 0 (by omega)
  have c1 := A1.1 1 (by omega)
  have c2 := A1.1 2 (by omega)
  have d0 := G1.1 0 (by omega)
  have d1 := G1.1 1 (by omega)
  have d2 := G1.1 2 (by omega)
  clear A1 G1 V1 O1
  go_wp2_with fail
  refine (eqPA3 ug ua P _ (fun j hj => (HVV.out.2 j hj).trms) HVV.out.1).mono ?_
  rintro e w8 ⟨rfl, hb8⟩
  have HB8 := Lib.hid hb8
  clear hb8 c0 c1 c2 d0 d1 d2 HVV
  go_wp2_with fail
  have HGG := Lib.hid (fun w' (h : Below w8.heap.size w8 w') => show w'.cell? ⟨m, 0, none⟩ = some (.slice b4 L.length cap4) ∧ w'.cell? ⟨m, 1, none⟩ = some (.int .i64 x) ∧ w'.cell? ⟨m, 2, none⟩ = some (.int .i64 y) ∧ w'.cell? ⟨m, 3, none⟩ = some (.int .i64 z) ∧ w'.cell? ⟨n, 0, none⟩ = some (.slice a L.length c) ∧ w'.cell? ⟨n, 1, none⟩ = some (.int .i64 x) ∧ w'.cell? ⟨n, 2, none⟩ = some (.int .i64 y) ∧ w'.cell? ⟨n, 3, none⟩ = some (.int .i64 z) from by
    have hh := HX.out w' (HB8.out.trans (h.mono HB8.out.size))
    exact ⟨hh.2.2.1.c0, hh.2.2.1.c1, hh.2.2.1.c2, hh.2.2.1.c3, hh.2.1.c0, hh.2.1.c1, hh.2.1.c2, hh.2.1.c3⟩)
  refine wp_region_seq [(0, true), (1, true), (2, false), (3, false)] (fun w' => w'.cell? ⟨m, 0, none⟩ = some (.slice b4 L.length cap4) ∧ w'.cell? ⟨m, 1, none⟩ = some (.int .i64 x) ∧ w'.cell? ⟨m, 2, none⟩ = some (.int .i64 y) ∧ w'.cell? ⟨m, 3, none⟩ = some (.int .i64 z) ∧ w'.cell? ⟨n, 0, none⟩ = some (.slice a L.length c) ∧ w'.cell? ⟨n, 1, none⟩ = some (.int .i64 x) ∧ w'.cell? ⟨n, 2, none⟩ = some (.int .i64 y) ∧ w'.cell? ⟨n, 3, none⟩ = some (.int .i64 z)) (by kernel_rfl) (by kernel_rfl) rfl (by intro c a d v w h; cases d <;> exact h) (HGG.out _ (Below.drew (Below.refl _ _))) ?_
  iterate 2 (refine wpSeq_take (v := ?_) (List.getElem?_toArray.trans rfl) ?_ ?_; rotate_left; (intro w' hSw; (try dsimp only at hSw); go_simp; (try with_reducible rfl)); (try simp only [Act.put, List.setIfInBounds_toArray, List.set_cons_zero, List.set_cons_succ]))
  refine wpSeq_do (List.getElem?_toArray.trans rfl) (fun K hK => ?_)
  go_simp
  have hdr : Below w8.heap.size w8 w8.drew := Below.drew (Below.refl _ _)
  refine (toGr _ L x y z _ (HX.out _ (HB8.out.trans (hdr.mono HB8.out.size))).2.2.2.2.2.2.2.2.1).mono ?_
  rintro e w9 ⟨u9, rfl, ho9, hb9⟩
  have HB9 := Lib.hid (show Below w8.heap.size w8 w9 from hdr.trans (hb9.mono (by simp)))
  have HO9 := Lib.hid ho9.gats
  refine hK _ _ (HGG.out _ HB9.out) ?_
  clear hK K hb9 ho9 hdr
  refine wpSeq_do (List.getElem?_toArray.trans rfl) (fun K hK => ?_)
  go_simp
  refine (eqGr _ u9 L x y z _ (HX.out _ (HB8.out.trans (HB9.out.mono HB8.out.size))).2.2.2.2.2.2.2.1.gats HO9.out).mono ?_
  rintro e w10 ⟨rfl, hb10⟩
  have HB10 := Lib.hid (show Below w8.heap.size w8 w10 from HB9.out.trans (hb10.mono HB9.out.size))
  refine hK _ _ (HGG.out _ HB10.out) ?_
  clear hK K hb10
  refine wpSeq_nil ?_
  simp only [Exit.then]
  have H10 := Lib.hid (show Below U7.heap.size U7 w10 from HB8.out.trans (HB10.out.mono HB8.out.size))
  obtain ⟨e0, e1, e2, e3, -⟩ := HGG.out _ HB10.out
  clear HGG HB8 HB9 HB10 HO9
  have HMG := Lib.hid (markGrad (.slice b4 L.length cap4) L x y z U3.heap.size m 1 w10 (HX.out _ H10.out).2.2.2.2.2.2.2.1 S5.out.2.2 (by have := H10.out.size; omega) (by omega) (by omega))
  go_wp2_with fail
  refine HMG.out.mono ?_
  rintro e w11 ⟨rfl, -, hb11, hst11⟩
  have hk11 : ¬ (1 : Int) + 3 * (L.length : Int) < 0 := by omega
  obtain ⟨hx10, -, -, A10, G10, V10, O10, -, -, R10⟩ := HX.out _ H10.out
  have h10s := H10.out.size
  have HY := Lib.hid (show Below U3.heap.size U3 w11 ∧ BxP w11 qa ua ∧ BxP w11 qg ug ∧ (∀ j, j < 3 → OwnTrms w11 (sg j) (slV (ug j)) (P j)) ∧ w10.heap.size ≤ w11.heap.size from by
    have hx : Below U3.heap.size U3 w11 := hx10.trans hb11
    refine ⟨hx, A0.out.on hx, G10.same (hst11 qg (by omega) (by omega)) hb11.size, fun j hj => ?_, hb11.size⟩
    obtain ⟨h1, a', cap', hv, h2⟩ := O10 j hj
    refine ⟨h1, a', cap', hv, ?_⟩
    rcases h2 with h2 | ⟨g, off, ha, hB, hg, hc, hf⟩
    · exact .inl h2
    · have hsj : sg 0 ≤ sg j := by have := OutT.up GO.out.2 0 j; rwa [Nat.zero_add] at this
      have e := hst11 g (by omega) hg
      refine .inr ⟨g, off, ha, hB, by have := hb11.size; omega, fun i hi => ?_, fun i hi => by rw [World.frozen?_of_block (a := ⟨g, off + i, none⟩) e]; exact hf i hi⟩
      have hh := hc i hi
      unfold TAt at hh ⊢
      obtain ⟨t0, t1, t2, t3⟩ := hh
      exact ⟨by rw [World.cell?_of_block (a := ⟨g, _, none⟩) e]; exact t0, by rw [World.cell?_of_block (a := ⟨g, _, none⟩) e]; exact t1, by rw [World.cell?_of_block (a := ⟨g, _, none⟩) e]; exact t2, by rw [World.cell?_of_block (a := ⟨g, _, none⟩) e]; exact t3⟩)
  clear e0 e1 e2 e3 HMG hb11 hst11 hx10 A10 G10 V10 O10 R10
  have c0 := HY.out.2.1.1 0 (by omega)
  have c1 := HY.out.2.1.1 1 (by omega)
  have c2 := HY.out.2.1.1 2 (by omega)
  have d0 := HY.out.2.2.1.1 0 (by omega)
  have d1 := HY.out.2.2.1.1 1 (by omega)
  have d2 := HY.out.2.2.1.1 2 (by omega)
  go_wp2_with fail
  refine (eqPA3 ug ua P _ (fun j hj => (HY.out.2.2.2.1 j hj).trms) (fun j hj => (V0.out j hj).below HY.out.1)).mono ?_
  rintro e w12 ⟨rfl, hb12⟩
  have HZ := Lib.hid (show Below U3.heap.size U3 w12 ∧ BxP w12 qg ug ∧ (∀ j, j < 3 → OwnTrms w12 (sg j) (slV (ug j)) (P j) ∧ LieT (slV (ug j)) (P j) (sg (j + 1))) from
    ⟨HY.out.1.trans (hb12.mono HY.out.1.size), HY.out.2.2.1.on hb12, fun j hj => ⟨(HY.out.2.2.2.1 j hj).below hb12, (GO.out.1 j hj).2⟩⟩)
  have hs12 : qg < w12.heap.size := HZ.out.2.1.2
  clear hb12 c0 c1 c2 d0 d1 d2
  have d0 := HZ.out.2.1.1 0 (by omega)
  have d1 := HZ.out.2.1.1 1 (by omega)
  have d2 := HZ.out.2.1.1 2 (by omega)
  obtain ⟨K, hK⟩ : ∃ K, K = mkN P 1 3 := ⟨_, rfl⟩
  have hK0 : ¬ K < 0 := by
    have := mkN_bd (P := P) (k := 1) (by omega) (by omega) (fun j hj => (GO.out.1 j hj).1.1) 3 (by omega)
    omega
  have HMP := Lib.hid (markPA3 ug P sg 1 w12 HZ.out.2.2 GO.out.2 (by omega) (by omega) (by omega))
  rw [← hK] at HMP
  have HKK := Lib.hid hK
  clear hK
  go_wp2_with fail
  refine HMP.out.mono ?_
  rintro e w13 ⟨rfl, hheld, hb13, hst13⟩
  have HD := Lib.hid (show Below U3.heap.size U3 w13 ∧ BxP w13 qa ua ∧ BxP w13 qg ug ∧ (∀ j, j < 3 → HeldT w13 (sg j) (slV (ug j)) (P j).length (mkN P 1 j)) from by
    have hx : Below U3.heap.size U3 w13 := HZ.out.1.trans (hb13.mono (by omega))
    exact ⟨hx, A0.out.on hx, HZ.out.2.1.same (hst13 qg hsg.2 hs12) hb13.size, hheld⟩)
  clear hheld hb13 hst13 HMP d0 d1 d2
  have d0 := HD.out.2.2.1.1 0 (by omega)
  have d1 := HD.out.2.2.1.1 1 (by omega)
  have d2 := HD.out.2.2.1.1 2 (by omega)
  have HHP := Lib.hid (fun w' (h : Below w13.heap.size w13 w') => show Calls Try.prog 71 #[agV ug, .int .i64 1] w' fun e w'' => e = .returned (.int .i64 K) ∧ Below w'.heap.size w' w'' by rw [HKK.out]; exact heldPA3 ug P sg 1 w' (fun j hj => (HD.out.2.2.2 j hj).below h) (by omega) (by omega))
  go_wp2_with fail
  refine (HHP.out _ (Below.refl _ _)).mono ?_
  rintro e w14 ⟨rfl, hb14⟩
  have HB14 := Lib.hid hb14
  have X14 := Lib.hid (HD.out.1.trans (hb14.mono HD.out.1.size))
  have R14 := Lib.hid (show Below W.heap.size W w14 from R.out.trans (X14.out.mono hWq))
  clear hb14 d0 d1 d2
  obtain ⟨a0, a1, a2, a3⟩ := HA.out.below R14.out HS.out
  go_wp2_with fail
  refine (toGrc _ L x y z _ (Q.out.below R14.out)).mono ?_
  rintro e w15 ⟨u5, rfl, hcp, ho, hb⟩
  have S15 := Lib.hid (And.intro hcp ho.gats)
  have HB15 := Lib.hid (HB14.out.trans (hb.mono HB14.out.size))
  clear hb ho hcp a0 a1 a2 a3
  go_wp2_with fail
  refine (HIM.out _ _ S15.out.1 S15.out.2).mono ?_
  rintro e w16 ⟨uh, sh, rfl, hs0, hsm, hst, hown, hb⟩
  obtain ⟨qh, hqh⟩ : ∃ q, q = w16.heap.size := ⟨_, rfl⟩
  obtain ⟨U17, hU17⟩ : ∃ U, U = w16.alloc (Obj.cells #[.slice (uh 0).1 (uh 0).2.1 (uh 0).2.2, .slice (uh 1).1 (uh 1).2.1 (uh 1).2.2, .slice (uh 2).1 (uh 2).2.1 (uh 2).2.2] 74) := ⟨_, rfl⟩
  have b17 : Below w16.heap.size w16 U17 := by rw [hU17]; exact (by repeat (first | exact Below.refl _ _ | apply Below.drew | apply below_drewN | (refine Below.alloc ?_ (by first | omega | (simp <;> omega)) _)))
  have H0 := Lib.hid (show BxP U17 qh uh by rw [hU17, hqh]; exact BxP.new w16 uh _)
  have VH := Lib.hid (fun j (hj : j < 3) => (hown j hj).1.trms.below b17)
  have HB17 := Lib.hid (show Below w13.heap.size w13 U17 from (HB15.out.trans (hb.mono HB15.out.size)).trans (b17.mono (Nat.le_trans HB15.out.size hb.size)))
  have X17 := Lib.hid (HD.out.1.trans (HB17.out.mono HD.out.1.size))
  have HU17 := Lib.hid hU17
  have Hqh := Lib.hid hqh
  clear hs0 hsm hst hown hb hqh hU17 b17 S15
  go_upto_region 25 with fail
  rw [← HU17.out, ← Hqh.out]
  clear HU17 Hqh
  have A17 := A0.out.on X17.out
  have c0 := A17.1 0 (by omega)
  have c1 := A17.1 1 (by omega)
  have c2 := A17.1 2 (by omega)
  have d0 := H0.out.1 0 (by omega)
  have d1 := H0.out.1 1 (by omega)
  have d2 := H0.out.1 2 (by omega)
  clear A17
  go_wp2_with fail
  refine (eqPA3 uh ua P _ VH.out (fun j hj => (V0.out j hj).below X17.out)).mono ?_
  rintro e w18 ⟨rfl, hb18⟩
  have HB18 := Lib.hid (show Below w13.heap.size w13 w18 from HB17.out.trans (hb18.mono HB17.out.size))
  have R18 := Lib.hid (show Below W.heap.size W w18 from R.out.trans ((HD.out.1.trans (HB18.out.mono HD.out.1.size)).mono hWq))
  clear hb18 c0 c1 c2 d0 d1 d2
  have G18 := HD.out.2.2.1.on HB18.out
  have d0 := G18.1 0 (by omega)
  have d1 := G18.1 1 (by omega)
  have d2 := G18.1 2 (by omega)
  clear G18
  go_wp2_with fail
  refine (HHP.out _ HB18.out).mono ?_
  rintro e w19 ⟨rfl, hb19⟩
  have HE := Lib.hid (show Below n w w19 from HB.out.trans ((R18.out.trans (hb19.mono R18.out.size)).mono (Nat.le_of_lt HS.out)))
  clear hb19 d0 d1 d2
  go_wp2_with fail
  go_ret
  exact ⟨rfl, HE.out⟩
set_option maxRecDepth 100000 in
set_option maxHeartbeats 1000000 in
theorem xGradientPolys_long (p : Int) (a : Option Addr) (len c : Nat) (x y z : Int) (w : World) (h1 : 1048576 < len) (h2 : len ≤ 9223372036854775807) :
    Calls Try.prog 10 #[.int .i64 p, .agg #[.slice a len c, .int .i64 x, .int .i64 y, .int .i64 z]] w fun e w' => e = .returned (.bool true) ∧ Below w.heap.size w w' := by
  have HS1 := Lib.hid (fun w => szGr_long a len c x y z w h1 h2)
  clear h1 h2
  go_enter Try.func10, Try.ntmps10
  go_wp2_with fail
  refine (HS1.out _).mono ?_
  rintro e w' ⟨rfl, hb⟩
  have HB := Lib.hid (show Below w.heap.size w w' from (Below.alloc (Below.refl _ _) (Nat.le_refl _) _ : Below w.heap.size w _).trans (hb.mono (by simp)))
  clear hb
  go_wp2_with fail
  go_ret
  exact ⟨rfl, HB.out⟩
theorem xGradientPolys (p : Int) (a : Option Addr) (len cap : Nat) (L : List Gt) (x y z : Int) (w : World) (h : RowG w a len L) :
    Calls Try.prog 10 #[.int .i64 p, .agg #[.slice a len cap, .int .i64 x, .int .i64 y, .int .i64 z]] w fun e w' => e = .returned (.bool true) ∧ Below w.heap.size w w' := by
  by_cases hl : len ≤ 1048576
  · have := h.1
    subst this
    exact xGradientPolys_in p a L cap x y z w (h.gats hl)
  · exact xGradientPolys_long p a len cap x y z w (by omega) h.2.1
end Go.Proofs.Ytibghhkhnpjdfaa
