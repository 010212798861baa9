/-
  Contracts of the model's ScalePoly. Conditions: what the slice holds is known.
-/
import Derived.Test.YtiahcaihmgnicaaSclM
import Derived.Test.YtiahcaihmgnicaaFldD
import Derived.Test.YtiahcaihmgnicaaStep
namespace Go.Proofs.Ytiahcaihmgnicaa
open Go.RowKit
theorem new_cells (w : World) (x : Trm) : ∀ j u, x.cs[j]? = some u → (w.alloc (Obj.cells #[.int .i64 x.a, .int .i64 x.b, .int .i64 x.c, .int .i64 x.t] 68)).drew.cell? ((⟨w.heap.size, 0, none⟩ : Addr).add j) = some u := by
  intro j u hu
  rw [Addr.add_lit, Nat.zero_add]
  show (w.alloc _).cell? _ = _
  rw [cell_of_row _ _ _ _ _ _ (heap_alloc_new w _)]
  match j, hu with
  | 0, hu => simpa [Trm.cs] using hu
  | 1, hu => simpa [Trm.cs] using hu
  | 2, hu => simpa [Trm.cs] using hu
  | 3, hu => simpa [Trm.cs] using hu
  | j + 4, hu => simp [Trm.cs] at hu
theorem ownT_base {w : World} {B B' : Nat} {v : Value} {L : List Trm} (h : OwnTrms w B v L) (hB : B' ≤ B) : OwnTrms w B' v L := by
  obtain ⟨h1, a, cap, hv, h2⟩ := h
  refine ⟨h1, a, cap, hv, ?_⟩
  rcases h2 with h2 | ⟨g, off, ha, hb, r⟩
  · exact .inl h2
  · exact .inr ⟨g, off, ha, by omega, r⟩
def GivesTrmsS (L : List Trm) (w : World) (e : Ending) (w' : World) : Prop :=
  ∃ v, e = .returned v ∧ OwnTrms w' w.heap.size v L ∧ Below w.heap.size w w'
/-- what the model has of the first k terms -/
def sclS (p a : Int) (L : List Trm) (k : Nat) : List Trm := sclL p a (L.take k)
theorem sclS_succ {p a : Int} {L : List Trm} {k : Nat} (hk : k < L.length) (h0 : a ≠ 0) : sclS p a L (k + 1) = sclS p a L k ++ [sclT p a (L.getD k default)] := by
  unfold sclS sclL
  rw [if_neg h0, if_neg h0, List.take_succ_eq_append_getElem hk, List.map_append, List.map_singleton]
  simp [List.getD_eq_getElem?_getD, hk]
theorem sclS_zero {p : Int} {L : List Trm} {k : Nat} : sclS p 0 L k = [] := by simp [sclS, sclL]
theorem sclS_len {p a : Int} {L : List Trm} {k : Nat} : (sclS p a L k).length ≤ k := by
  unfold sclS sclL
  split <;> simp <;> omega
set_option maxRecDepth 100000 in
set_option maxHeartbeats 8000000 in
theorem sScaled_some (p : Int) (g off cap : Nat) (L : List Trm) (a : Int) (w : World) (hp : isP p = true) (hV : validB p L = true) (ha : isE p a = true) (hg : g < w.heap.size)
    (hc : ∀ j : Nat, j < L.length → TAt w g (off + j * 4) (L.getD j default)) :
    Calls Try.prog 87 #[.int .i64 p, .slice (some ⟨g, off, none⟩) L.length cap, .int .i64 a] w (GivesTrmsS (sclL p a L) w) := by
  have hl := validB_len hV
  obtain ⟨i0, hi, hz0, hz1, hz2⟩ := info_parts infoT
  obtain ⟨p0, p1⟩ := isP_bd hp
  obtain ⟨ae0, ae1⟩ := isE_iff.1 ha
  have HC := Lib.hid hc
  have HV := Lib.hid hV
  have HP := Lib.hid hp
  clear hc hV hp ha
  go_enter Try.func87, Try.ntmps87
  go_wp2_with fail
  go_loopw [7, 13] (fun v i wr => ∃ k : Nat, k ≤ L.length ∧ i = .int .i64 k ∧ Row wr w.heap.size v (sclS p a L k) ∧ Below w.heap.size w wr) (fun _ i _ => L.length - (intOf i).toNat)
  case atStart => exact ⟨0, by omega, rfl, by have := Row.lit0 w w.heap.size (Nat.le_refl _); unfold sclS sclL; split <;> exact this, Below.alloc (Below.refl _ _) (Nat.le_refl _) _⟩
  case round =>
    obtain ⟨k, hk, rfl, hR, hb⟩ := hrel
    have hlen := sclS_len (p := p) (a := a) (L := L) (k := k)
    by_cases hlt : k < L.length
    · have hltp : (k : Int) < (L.length : Int) := by omega
      have hk0 : (0 : Int) ≤ (k : Int) := by omega
      obtain ⟨a0, a1, a2, a3⟩ := (HC.out k hlt).below hb hg
      obtain ⟨x, hx⟩ : ∃ x, x = L.getD k default := ⟨_, rfl⟩
      rw [← hx] at a0 a1 a2 a3
      obtain ⟨el0, el1⟩ := validB_el HV.out hlt hx
      obtain ⟨m0, m1⟩ := mul_bd HP.out (show 0 ≤ x.t by omega) el1 ae0 ae1
      have HR := Lib.hid hR
      have Hb := Lib.hid hb
      by_cases h0 : a = 0
      · have HE := Lib.hid (show sclS p a L (k + 1) = sclS p a L k by rw [h0, sclS_zero, sclS_zero])
        clear hx hR hb
        go_wp2_with fail
        go_roundw
        case rel => exact ⟨k + 1, by omega, by go_num, by rw [HE.out]; exact World.ownsRow.alloc HR.out _, Below.alloc Hb.out Hb.out.size _⟩
        case measure => simp [intOf]; omega
      · have HE := Lib.hid (show sclS p a L (k + 1) = sclS p a L k ++ [sclT p a x] by rw [sclS_succ hlt h0, hx])
        have hne : (a == 0) = false := by simp [h0]
        clear hx hR hb
        go_wp2_with fail
        obtain ⟨W, hW⟩ : ∃ W, W = wr.alloc (Obj.cells #[.int .i64 x.a, .int .i64 x.b, .int .i64 x.c, .int .i64 x.t] 68) := ⟨_, rfl⟩
        have hT : TAt W wr.heap.size 0 x := by rw [hW]; refine ⟨?_, ?_, ?_, ?_⟩ <;> simp [go_sem]
        have HRW := Lib.hid (show Row W w.heap.size u7 (sclS p a L k) by rw [hW]; exact World.ownsRow.alloc HR.out _)
        have HbW := Lib.hid (show Below w.heap.size w W by rw [hW]; exact Below.alloc Hb.out Hb.out.size _)
        rw [← hW]
        clear hW a0 a1 a2 a3
        obtain ⟨t0, t1, t2, t3⟩ := hT
        simp only [Nat.zero_add] at t0 t1 t2 t3
        have HR4 := Lib.hid (show World.ownsRow (W.alloc (Obj.cells #[.int .i64 x.a, .int .i64 x.b, .int .i64 x.c, .int .i64 (x.t * a % p)] 68)).drew w.heap.size 68 4 u7 (sclS p a L k).length (flat (sclS p a L k)) from
          Row.below (World.ownsRow.alloc HRW.out _) (Below.drew (Below.refl _ _)))
        have HN := Lib.hid (new_cells W (sclT p a x))
        have hWs : w.heap.size ≤ W.heap.size := HbW.out.size
        have hmw : IntKind.i64.wrap (x.t * a) = x.t * a := IntWalk.i64_in _ (by omega)
        have htm : (x.t * a).tmod p = x.t * a % p := Int.tmod_eq_emod_of_nonneg m0
        have hp0 : ¬ p = 0 := by omega
        have hpm : (p == 0) = false := by simp [hp0]
        have hem := emod_bd (n := x.t * a) p0
        have hwm : IntKind.i64.wrap (x.t * a % p) = x.t * a % p := IntWalk.i64_in _ (by omega)
        go_region_law (refine step_append_own rfl _ _ 25 rfl w.heap.size 68 i0 (.agg #[.int .i64 0, .int .i64 0, .int .i64 0, .int .i64 0]) 4 32 Try.underlying25 hi hz0 hz1 hz2 rfl (by decide) u7 (sclS p a L k).length (flat (sclS p a L k)) (by simp [Act.eval]) HR4.out ⟨W.heap.size, 0, none⟩ 1 1 (sclT p a x).cs (by simp [Act.eval]) rfl HN.out (fun u hu => flat_cell [sclT p a x] u (by simpa [flat] using hu)) (by unfold maxLen; omega) (by omega) (by simp; omega) ?_; intro v' w3 hown' hgrow)
        all_goals
          have R3 := Lib.hid (show Row w3 w.heap.size v' (sclS p a L (k + 1)) by
            rw [HE.out]
            show World.ownsRow _ _ _ _ _ _ _
            rw [flat_app, flat_one, List.length_append]
            exact hown')
          have H3 := Lib.hid (show Below w.heap.size w w3 from Below.trans (Below.drew (Below.alloc HbW.out hWs _)) (Row.low HR4.out (by simp; omega) hgrow))
          clear hown' hgrow
          go_wp2
          go_roundw
          case rel => exact ⟨k + 1, by omega, by go_num, R3.out, H3.out⟩
          case measure => simp [intOf]; omega
    · have hkl : k = L.length := by omega
      subst hkl
      have e1 : sclS p a L L.length = sclL p a L := by unfold sclS; rw [List.take_length]
      rw [e1] at hR hlen
      go_wp2
      go_ret
      exact ⟨_, rfl, hR.own (by omega), hb⟩
set_option maxHeartbeats 4000000 in
theorem sScaled_nil (p : Int) (b : Option Addr) (cap : Nat) (a : Int) (w : World) :
    Calls Try.prog 87 #[.int .i64 p, .slice b 0 cap, .int .i64 a] w (GivesTrmsS [] w) := by
  go_enter Try.func87, Try.ntmps87
  go_wp2_with fail
  go_loop [7, 13] (fun v i => v = .slice (some ⟨w.heap.size, 0, none⟩) 0 0 ∧ i = .int .i64 0) (fun _ _ => 0)
  case atStart => exact ⟨rfl, rfl⟩
  case round =>
    obtain ⟨rfl, rfl⟩ := hrel
    go_wp2_with fail
    go_ret
    exact ⟨_, rfl, (Row.lit0 w w.heap.size (Nat.le_refl _)).own (by simp), Below.alloc (Below.refl _ _) (Nat.le_refl _) _⟩
theorem sScaled (p : Int) (f : Value) (L : List Trm) (a : Int) (w : World) (hp : isP p = true) (hV : validB p L = true) (ha : isE p a = true) (h : Trms w f L) :
    Calls Try.prog 87 #[.int .i64 p, f, .int .i64 a] w (GivesTrmsS (sclL p a L) w) := by
  obtain ⟨hl, b, cap, rfl, h2⟩ := h
  rcases h2 with rfl | ⟨g, off, rfl, hg, hc⟩
  · have : sclL p a [] = [] := by unfold sclL; split <;> rfl
    rw [this]; exact sScaled_nil p b cap a w
  · exact sScaled_some p g off cap L a w hp hV ha hg hc
/-- what ScalePoly hands back, for all arguments -/
def sclV (p a : Int) (L : List Trm) : List Trm := if (isP p && validB p L) && isE p a then sclL p a L else []
end Go.Proofs.Ytiahcaihmgnicaa
