/-
  Contract of the laws' acPoint: a point of the field. Conditions: the number is a prime, the bytes can be read.
-/
import Derived.Test.YtgbjchidnnmifaaDri
import Derived.Test.YtgbjchidnnmifaaEvl
namespace Go.Proofs.Ytgbjchidnnmifaa
open Go.RowKit
/-- rounds of acPoint: a point is being laid into a block, beside three cells for the result -/
structure QSt (w0 : World) (B G : Nat) (p x y z : Int) (wr : World) : Prop where
  b3 : Three wr B
  pt : PtAt wr G x y z
  f0 : wr.frozen? ⟨G, 0, none⟩ = false
  f1 : wr.frozen? ⟨G, 1, none⟩ = false
  f2 : wr.frozen? ⟨G, 2, none⟩ = false
  el : (0 ≤ x ∧ x < p) ∧ (0 ≤ y ∧ y < p) ∧ (0 ≤ z ∧ z < p)
  low : Below w0.heap.size w0 wr
  ne : B < G
  hB : w0.heap.size ≤ B
theorem QSt.set {w0 wr : World} {B G : Nat} {p x y z : Int} (h : QSt w0 B G p x y z wr) (k : Nat) (hk : k < 3) (v : Int) (h0 : 0 ≤ v) (h1 : v < p) :
    QSt w0 B G p (if k = 0 then v else x) (if k = 1 then v else y) (if k = 2 then v else z) (wr.setCell ⟨G, k, none⟩ (.int .i64 v)) := by
  obtain ⟨p0, p1, p2⟩ := h.pt
  obtain ⟨e0, e1, e2⟩ := h.el
  have hne := h.ne
  have hB := h.hB
  refine ⟨h.b3.same (by simp) (Below.heap_setCell _ _ _ _ (show B ≠ G by omega)), ?_, by rw [World.frozen?_setCell]; exact h.f0, by rw [World.frozen?_setCell]; exact h.f1, by rw [World.frozen?_setCell]; exact h.f2, ?_, h.low.setCell (show w0.heap.size ≤ G by omega) _, h.ne, h.hB⟩
  · have hk3 : k = 0 ∨ k = 1 ∨ k = 2 := by omega
    rcases hk3 with rfl | rfl | rfl
    · exact ⟨by rw [World.cell?_setCell_same _ _ _ p0]; rfl, by rw [World.cell?_setCell_other _ _ _ _ (addr_ne (by omega))]; exact p1, by rw [World.cell?_setCell_other _ _ _ _ (addr_ne (by omega))]; exact p2⟩
    · exact ⟨by rw [World.cell?_setCell_other _ _ _ _ (addr_ne (by omega))]; exact p0, by rw [World.cell?_setCell_same _ _ _ p1]; rfl, by rw [World.cell?_setCell_other _ _ _ _ (addr_ne (by omega))]; exact p2⟩
    · exact ⟨by rw [World.cell?_setCell_other _ _ _ _ (addr_ne (by omega))]; exact p0, by rw [World.cell?_setCell_other _ _ _ _ (addr_ne (by omega))]; exact p1, by rw [World.cell?_setCell_same _ _ _ p2]; rfl⟩
  · refine ⟨?_, ?_, ?_⟩ <;> split <;> first | exact ⟨h0, h1⟩ | assumption
set_option maxHeartbeats 4000000 in
theorem acPoint_any (p : Int) (hp : isP p = true) (a : Option Addr) (len cap : Nat) (w : World) (h : ByteRow w a len cap) :
    Calls Try.prog 22 #[.int .i64 p, .slice a len cap] w fun e w' => ∃ x y z : Int, e = .returned (.agg #[.int .i64 x, .int .i64 y, .int .i64 z]) ∧ isE3 p x y z = true ∧ Below w.heap.size w w' := by
  obtain ⟨p2, p13⟩ := isP_bd hp
  have HB := Lib.hid h
  obtain ⟨hc1, hc2, _⟩ := h
  have S0 : QSt w w.heap.size (w.heap.size + 1) p 0 0 0 ((w.alloc (.cells #[.int .i64 0, .int .i64 0, .int .i64 0] 25)).alloc (.cells #[.int .i64 0, .int .i64 0, .int .i64 0] 25)) := by
    refine ⟨(Three.new w 25).same (by simp) (heap_alloc_old _ _ (by simp)), ⟨?_, ?_, ?_⟩, ?_, ?_, ?_, ⟨⟨by omega, by omega⟩, ⟨by omega, by omega⟩, ⟨by omega, by omega⟩⟩, (by repeat (first | exact Below.refl _ _ | apply Below.drew | apply below_drewN | (refine Below.alloc ?_ (by first | omega | (simp <;> omega)) _))), by omega, Nat.le_refl _⟩ <;> simp [go_sem]
  have HS0 := Lib.hid S0
  clear S0 hp
  go_enter Try.func22, Try.ntmps22
  go_wp2_with fail
  go_loopw [8] (fun i wr => ∃ k : Nat, ∃ x y z : Int, k ≤ 3 ∧ i = .int .i64 k ∧ QSt w w.heap.size (w.heap.size + 1) p x y z wr) (fun i _ => 3 - (intOf i).toNat)
  case atStart => exact ⟨0, 0, 0, 0, by omega, rfl, HS0.out⟩
  case round =>
    clear HS0
    rename_i K' hK'
    have HK' := Lib.hid hK'
    clear hK'
    obtain ⟨k, x, y, z, hk, rfl, hS⟩ := hrel
    have HS := Lib.hid hS
    by_cases hlt : k < 3
    · have hltp : (k : Int) < 3 := by omega
      have hk0 : (0 : Int) ≤ (k : Int) := by omega
      by_cases hkl : k < len
      · have hklp : (k : Int) < (len : Int) := by omega
        obtain ⟨j, hj⟩ : ∃ j : Nat, len = k + 1 + j := ⟨len - k - 1, by omega⟩
        have hjj : (len : Int) - 1 - (k : Int) = (j : Int) := by omega
        have hw1 : IntKind.i64.wrap ((len : Int) - 1) = (len : Int) - 1 := IntWalk.i64_in _ (by omega)
        have hw2 : IntKind.i64.wrap (j : Int) = (j : Int) := IntWalk.i64_in _ (by omega)
        have hjl : (j : Int) < (len : Int) := by omega
        have hj0 : (0 : Int) ≤ (j : Int) := by omega
        obtain ⟨_, _, hc3⟩ := HB.out
        rcases hc3 with h0 | ⟨g, off, rfl, hg, hc⟩
        · omega
        obtain ⟨b, b0, b1, hb⟩ := hc j (by omega)
        have hbr : wr.cell? ⟨g, off + j, none⟩ = some (.int .u8 b) := by rw [hS.low.cell (p := ⟨g, off + j, none⟩) hg]; exact hb
        have hm0 : 0 ≤ b % p := Int.emod_nonneg _ (by omega)
        have hm1 : b % p < p := Int.emod_lt_of_pos _ (by omega)
        have HN := Lib.hid (hS.set k hlt (b % p) hm0 hm1)
        have hpt : ∃ u, wr.cell? ⟨w.heap.size + 1, k, none⟩ = some u := by
          obtain ⟨q0, q1, q2⟩ := hS.pt
          have hk3 : k = 0 ∨ k = 1 ∨ k = 2 := by omega
          rcases hk3 with rfl | rfl | rfl
          · exact ⟨_, q0⟩
          · exact ⟨_, q1⟩
          · exact ⟨_, q2⟩
        have hft : wr.frozen? ⟨w.heap.size + 1, k, none⟩ = false := by
          have hk3 : k = 0 ∨ k = 1 ∨ k = 2 := by omega
          rcases hk3 with rfl | rfl | rfl
          · exact hS.f0
          · exact hS.f1
          · exact hS.f2
        obtain ⟨u, hu⟩ := hpt
        clear hS hc hb hj
        go_wp2_with fail
        go_roundw
        case rel => exact ⟨k + 1, _, _, _, by omega, by go_num, HN.out⟩
        case measure => simp [intOf]; omega
      · have hklp : (len : Int) ≤ (k : Int) := by omega
        clear hS
        go_wp2_with fail
        go_roundw
        case rel => exact ⟨k + 1, _, _, _, by omega, by go_num, HS.out⟩
        case measure => simp [intOf]; omega
    · have hk3 : (3 : Int) ≤ (k : Int) := by omega
      obtain ⟨t0, t1, t2⟩ := hS.pt
      obtain ⟨_, ⟨u0, s0⟩, ⟨u1, s1⟩, ⟨u2, s2⟩, f0, f1, f2⟩ := hS.b3
      have hK' := HK'.out
      clear hS
      go_wp2_with fail
      refine bodyPost_ret (v := .agg #[.int .i64 x, .int .i64 y, .int .i64 z]) (by simp [results, Try.results22, go_sem, s0, s1, s2]) rfl ⟨x, y, z, rfl, isE3_iff.2 HS.out.el, ?_⟩
      exact Below.setCell (Below.setCell (Below.setCell HS.out.low (Nat.le_refl w.heap.size) _) (Nat.le_refl w.heap.size) _) (Nat.le_refl w.heap.size) _
end Go.Proofs.Ytgbjchidnnmifaa
