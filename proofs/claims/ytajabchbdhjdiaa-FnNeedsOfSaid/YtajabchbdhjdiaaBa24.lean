/-
  Of lists: a polynomial times an element, term by term. Conditions: none.
  Contracts of the model's ScalePoly. Conditions: what the slice holds is known.
  Contracts of the sum as a polynomial, and of both ScalePoly. Conditions: what the slice holds is known.
-/
import Derived.Test.YtajabchbdhjdiaaBa22
import Derived.Test.YtajabchbdhjdiaaBa16
import Derived.Test.YtajabchbdhjdiaaBa20
import Derived.Test.YtajabchbdhjdiaaBa15
import Derived.Test.YtajabchbdhjdiaaBa7
namespace Go.Proofs.Ytajabchbdhjdiaa
open Go.RowKit
theorem addAll_snoc (p : Int) (x : Trm) : ∀ (xs L : List Trm), addAll p (xs ++ [x]) L = addT p x (addAll p xs L)
  | [], L => rfl
  | y :: ys, L => by
    show addAll p (ys ++ [x]) (addT p y L) = _
    rw [addAll_snoc p x ys]
    rfl
/-- a term that stands behind all others is put at the end -/
theorem plc_end {x : Trm} : ∀ {L : List Trm}, (∀ y ∈ L, bef y x = true) → plc x L = L.length
  | [], _ => rfl
  | y :: r, h => by
    unfold plc
    rw [if_pos (h y (by simp)), plc_end (fun z hz => h z (by simp [hz]))]
    simp
theorem addT_end {p : Int} {x : Trm} {L : List Trm} (h : ∀ y ∈ L, bef y x = true) (hx : x.t ≠ 0) : addT p x L = L ++ [x] := by
  have hp := plc_end h
  unfold addT
  rw [if_neg hx, if_neg (by unfold hit; rw [hp]; simp), hp]
  simp
theorem addT_zero {p : Int} {x : Trm} {L : List Trm} (hx : x.t = 0) : addT p x L = L := by unfold addT; rw [if_pos hx]
theorem prime_mul {p a b : Int} (hp : isP p = true) (ha : 1 ≤ a ∧ a < p) (hb : 1 ≤ b ∧ b < p) : a * b % p ≠ 0 := by
  have key : ∀ q ∈ ([2, 3, 5, 7, 11, 13] : List Nat), ∀ x, x < q → ∀ y, y < q → x ≠ 0 → y ≠ 0 → (x * y) % q ≠ 0 := by decide +kernel
  obtain ⟨a', rfl⟩ := Int.eq_ofNat_of_zero_le (show 0 ≤ a by omega)
  obtain ⟨b', rfl⟩ := Int.eq_ofNat_of_zero_le (show 0 ≤ b by omega)
  have hbd := isP_bd hp
  obtain ⟨q, rfl⟩ := Int.eq_ofNat_of_zero_le (show 0 ≤ p by omega)
  have hq : q ∈ ([2, 3, 5, 7, 11, 13] : List Nat) := by
    have : q = 2 ∨ q = 3 ∨ q = 5 ∨ q = 7 ∨ q = 11 ∨ q = 13 := by have := isP_cases hp; omega
    rcases this with h | h | h | h | h | h <;> subst h <;> simp
  have := key q hq a' (by omega) b' (by omega) (by omega) (by omega)
  intro h
  apply this
  have h2 : ((a' * b' % q : Nat) : Int) = 0 := by push_cast; exact h
  exact_mod_cast h2
theorem validB_srt {p : Int} {L : List Trm} (h : validB p L = true) : Srt L := by
  show List.Pairwise _ L
  rw [List.pairwise_iff_getElem]
  have step : ∀ k, k + 1 < L.length → bef (L.getD k default) (L.getD (k + 1) default) = true := by
    intro k hk
    have h1 := validB_at h hk
    simp only [okAt, Bool.and_eq_true, Bool.or_eq_true] at h1
    have h2 := h1.2
    simpa using h2
  have all : ∀ d i, i + d + 1 < L.length → bef (L.getD i default) (L.getD (i + d + 1) default) = true := by
    intro d
    induction d with
    | zero => intro i hi; exact step i hi
    | succ d ih => intro i hi; exact bef_trans (ih i (by omega)) (step (i + d + 1) (by omega))
  intro i j hi hj hij
  have := all (j - i - 1) i (by omega)
  rw [show i + (j - i - 1) + 1 = j by omega] at this
  simpa [List.getD_eq_getElem?_getD, hi, hj] using this
theorem validB_els {p : Int} {L : List Trm} (h : validB p L = true) : Els p L := by
  intro y hy
  obtain ⟨k, hk, rfl⟩ := List.getElem_of_mem hy
  have := validB_el h hk rfl
  simpa [List.getD_eq_getElem?_getD, hk] using this
theorem validB_of {p : Int} {L : List Trm} (hs : Srt L) (he : Els p L) (hp : ∀ y ∈ L, powsB y.a y.b y.c = true) (hl : L.length ≤ 60) : validB p L = true := by
  unfold validB
  rw [Bool.and_eq_true]
  refine ⟨List.all_eq_true.2 fun k hk => ?_, by simpa using hl⟩
  have hk := List.mem_range.1 hk
  have hm : L.getD k default ∈ L := by simp [List.getD_eq_getElem?_getD, hk]
  have h1 := he _ hm
  unfold okAt tokB
  rw [hp _ hm]
  have e1 : (decide (1 ≤ (L.getD k default).t) && decide ((L.getD k default).t ≤ p - 1)) = true := by rw [Bool.and_eq_true, decide_eq_true_eq, decide_eq_true_eq]; omega
  rw [e1]
  cases k with
  | zero => simp
  | succ k => simpa using srt_getD hs (Nat.lt_succ_self k) hk
/-- a term times an element -/
def sclT (p a : Int) (x : Trm) : Trm := ⟨x.a, x.b, x.c, x.t * a % p⟩
/-- what a polynomial times an element is -/
def sclL (p a : Int) (L : List Trm) : List Trm := if a = 0 then [] else L.map (sclT p a)
theorem scl_addAll {p a : Int} {L : List Trm} (hp : isP p = true) (ha : isE p a = true) (hs : Srt L) (he : Els p L) : ∀ k, k ≤ L.length → addAll p ((L.take k).map (sclT p a)) [] = sclL p a (L.take k)
  | 0, _ => by simp [addAll, sclL]
  | k + 1, hk => by
    have hkl : k < L.length := by omega
    rw [List.take_succ_eq_append_getElem hkl, List.map_append, List.map_singleton, addAll_snoc, scl_addAll hp ha hs he k (by omega)]
    by_cases h0 : a = 0
    · rw [addT_zero (by simp [sclT, h0])]
      simp [sclL, h0]
    · have ha2 := isE_iff.1 ha
      have hel := he L[k] (List.getElem_mem hkl)
      unfold sclL
      rw [if_neg h0, if_neg h0, addT_end ?_ (prime_mul hp hel ⟨by omega, ha2.2⟩), List.map_append, List.map_singleton]
      intro y hy
      obtain ⟨z, hz, rfl⟩ := List.mem_map.1 hy
      obtain ⟨i, hi, rfl⟩ := List.getElem_of_mem hz
      simp only [List.length_take] at hi
      have := List.pairwise_iff_getElem.1 hs i k (by omega) hkl (by omega)
      rw [List.getElem_take]
      exact this
theorem scl_valid {p a : Int} {L : List Trm} (hp : isP p = true) (ha : isE p a = true) (hV : validB p L = true) : validB p (sclL p a L) = true := by
  unfold sclL
  by_cases h0 : a = 0
  · rw [if_pos h0]; rfl
  · rw [if_neg h0]
    have hs := validB_srt hV
    have he := validB_els hV
    have ha2 := isE_iff.1 ha
    have hb := isP_bd hp
    refine validB_of ?_ ?_ ?_ ?_
    · exact List.pairwise_map.2 (hs.imp fun h => h)
    · intro y hy
      obtain ⟨z, hz, rfl⟩ := List.mem_map.1 hy
      have h1 := prime_mul hp (he z hz) (show 1 ≤ a ∧ a < p by omega)
      have h2 := emod_bd (n := z.t * a) hb.1
      exact ⟨by show 1 ≤ z.t * a % p; omega, h2.2⟩
    · intro y hy
      obtain ⟨z, hz, rfl⟩ := List.mem_map.1 hy
      obtain ⟨k, hk, rfl⟩ := List.getElem_of_mem hz
      have := okAt_pows (validB_at hV hk)
      simpa [List.getD_eq_getElem?_getD, hk, sclT] using this
    · simpa using validB_len hV
end Go.Proofs.Ytajabchbdhjdiaa
namespace Go.Proofs.Ytajabchbdhjdiaa
open Go.RowKit
theorem new_cells (w : World) (x : Trm) : ∀ j u, x.cs[j]? = some u → (w.alloc (Obj.cells #[.int .i64 x.a, .int .i64 x.b, .int .i64 x.c, .int .i64 x.t] 69)).drew.cell? ((⟨w.heap.size, 0, none⟩ : Addr).add j) = some u := by
  intro j u hu
  rw [Addr.add_lit, Nat.zero_add]
  show (w.alloc _).cell? _ = _
  rw [cell_of_row _ _ _ _ _ _ (heap_alloc_new w _)]
  match j, hu with
  | 0, hu => simpa [Trm.cs] using hu
  | 1, hu => simpa [Trm.cs] using hu
  | 2, hu => simpa [Trm.cs] using hu
  | 3, hu => simpa [Trm.cs] using hu
  | j + 4, hu => simp [Trm.cs] at hu
theorem ownT_base {w : World} {B B' : Nat} {v : Value} {L : List Trm} (h : OwnTrms w B v L) (hB : B' ≤ B) : OwnTrms w B' v L := by
  obtain ⟨h1, a, cap, hv, h2⟩ := h
  refine ⟨h1, a, cap, hv, ?_⟩
  rcases h2 with h2 | ⟨g, off, ha, hb, r⟩
  · exact .inl h2
  · exact .inr ⟨g, off, ha, by omega, r⟩
def GivesTrmsS (L : List Trm) (w : World) (e : Ending) (w' : World) : Prop :=
  ∃ v, e = .returned v ∧ OwnTrms w' w.heap.size v L ∧ Below w.heap.size w w'
/-- what the model has of the first k terms -/
def sclS (p a : Int) (L : List Trm) (k : Nat) : List Trm := sclL p a (L.take k)
theorem sclS_succ {p a : Int} {L : List Trm} {k : Nat} (hk : k < L.length) (h0 : a ≠ 0) : sclS p a L (k + 1) = sclS p a L k ++ [sclT p a (L.getD k default)] := by
  unfold sclS sclL
  rw [if_neg h0, if_neg h0, List.take_succ_eq_append_getElem hk, List.map_append, List.map_singleton]
  simp [List.getD_eq_getElem?_getD, hk]
theorem sclS_zero {p : Int} {L : List Trm} {k : Nat} : sclS p 0 L k = [] := by simp [sclS, sclL]
theorem sclS_len {p a : Int} {L : List Trm} {k : Nat} : (sclS p a L k).length ≤ k := by
  unfold sclS sclL
  split <;> simp <;> omega
set_option maxRecDepth 100000 in
set_option maxHeartbeats 8000000 in
theorem sScaled_some (p : Int) (g off cap : Nat) (L : List Trm) (a : Int) (w : World) (hp : isP p = true) (hV : validB p L = true) (ha : isE p a = true) (hg : g < w.heap.size)
    (hc : ∀ j : Nat, j < L.length → TAt w g (off + j * 4) (L.getD j default)) :
    Calls Try.prog 73 #[.int .i64 p, .slice (some ⟨g, off, none⟩) L.length cap, .int .i64 a] w (GivesTrmsS (sclL p a L) w) := by
  have hl := validB_len hV
  obtain ⟨i0, hi, hz0, hz1, hz2⟩ := info_parts infoT
  obtain ⟨p0, p1⟩ := isP_bd hp
  obtain ⟨ae0, ae1⟩ := isE_iff.1 ha
  have HC := Lib.hid hc
  have HV := Lib.hid hV
  have HP := Lib.hid hp
  clear hc hV hp ha
  go_enter Try.func73, Try.ntmps73
  go_wp2_with fail
  go_loopw [7, 13] (fun v i wr => ∃ k : Nat, k ≤ L.length ∧ i = .int .i64 k ∧ Row wr w.heap.size v (sclS p a L k) ∧ Below w.heap.size w wr) (fun _ i _ => L.length - (intOf i).toNat)
  case atStart => exact ⟨0, by omega, rfl, by have := Row.lit0 w w.heap.size (Nat.le_refl _); unfold sclS sclL; split <;> exact this, Below.alloc (Below.refl _ _) (Nat.le_refl _) _⟩
  case round =>
    obtain ⟨k, hk, rfl, hR, hb⟩ := hrel
    have hlen := sclS_len (p := p) (a := a) (L := L) (k := k)
    by_cases hlt : k < L.length
    · have hltp : (k : Int) < (L.length : Int) := by omega
      have hk0 : (0 : Int) ≤ (k : Int) := by omega
      obtain ⟨a0, a1, a2, a3⟩ := (HC.out k hlt).below hb hg
      obtain ⟨x, hx⟩ : ∃ x, x = L.getD k default := ⟨_, rfl⟩
      rw [← hx] at a0 a1 a2 a3
      obtain ⟨el0, el1⟩ := validB_el HV.out hlt hx
      obtain ⟨m0, m1⟩ := mul_bd HP.out (show 0 ≤ x.t by omega) el1 ae0 ae1
      have HR := Lib.hid hR
      have Hb := Lib.hid hb
      by_cases h0 : a = 0
      · have HE := Lib.hid (show sclS p a L (k + 1) = sclS p a L k by rw [h0, sclS_zero, sclS_zero])
        clear hx hR hb
        go_wp2_with fail
        go_roundw
        case rel => exact ⟨k + 1, by omega, by go_num, by rw [HE.out]; exact World.ownsRow.alloc HR.out _, Below.alloc Hb.out Hb.out.size _⟩
        case measure => simp [intOf]; omega
      · have HE := Lib.hid (show sclS p a L (k + 1) = sclS p a L k ++ [sclT p a x] by rw [sclS_succ hlt h0, hx])
        have hne : (a == 0) = false := by simp [h0]
        clear hx hR hb
        go_wp2_with fail
        obtain ⟨W, hW⟩ : ∃ W, W = wr.alloc (Obj.cells #[.int .i64 x.a, .int .i64 x.b, .int .i64 x.c, .int .i64 x.t] 69) := ⟨_, rfl⟩
        have hT : TAt W wr.heap.size 0 x := by rw [hW]; refine ⟨?_, ?_, ?_, ?_⟩ <;> simp [go_sem]
        have HRW := Lib.hid (show Row W w.heap.size u7 (sclS p a L k) by rw [hW]; exact World.ownsRow.alloc HR.out _)
        have HbW := Lib.hid (show Below w.heap.size w W by rw [hW]; exact Below.alloc Hb.out Hb.out.size _)
        rw [← hW]
        clear hW a0 a1 a2 a3
        obtain ⟨t0, t1, t2, t3⟩ := hT
        simp only [Nat.zero_add] at t0 t1 t2 t3
        have HR4 := Lib.hid (show World.ownsRow (W.alloc (Obj.cells #[.int .i64 x.a, .int .i64 x.b, .int .i64 x.c, .int .i64 (x.t * a % p)] 69)).drew w.heap.size 69 4 u7 (sclS p a L k).length (flat (sclS p a L k)) from
          Row.below (World.ownsRow.alloc HRW.out _) (Below.drew (Below.refl _ _)))
        have HN := Lib.hid (new_cells W (sclT p a x))
        have hWs : w.heap.size ≤ W.heap.size := HbW.out.size
        have hmw : IntKind.i64.wrap (x.t * a) = x.t * a := IntWalk.i64_in _ (by omega)
        have htm : (x.t * a).tmod p = x.t * a % p := Int.tmod_eq_emod_of_nonneg m0
        have hp0 : ¬ p = 0 := by omega
        have hpm : (p == 0) = false := by simp [hp0]
        have hem := emod_bd (n := x.t * a) p0
        have hwm : IntKind.i64.wrap (x.t * a % p) = x.t * a % p := IntWalk.i64_in _ (by omega)
        go_region_law (refine step_append_own rfl _ _ 27 rfl w.heap.size 69 i0 (.agg #[.int .i64 0, .int .i64 0, .int .i64 0, .int .i64 0]) 4 32 Try.underlying27 hi hz0 hz1 hz2 rfl (by decide) u7 (sclS p a L k).length (flat (sclS p a L k)) (by simp [Act.eval]) HR4.out ⟨W.heap.size, 0, none⟩ 1 1 (sclT p a x).cs (by simp [Act.eval]) rfl HN.out (fun u hu => flat_cell [sclT p a x] u (by simpa [flat] using hu)) (by unfold maxLen; omega) (by omega) (by simp; omega) ?_; intro v' w3 hown' hgrow)
        all_goals
          have R3 := Lib.hid (show Row w3 w.heap.size v' (sclS p a L (k + 1)) by
            rw [HE.out]
            show World.ownsRow _ _ _ _ _ _ _
            rw [flat_app, flat_one, List.length_append]
            exact hown')
          have H3 := Lib.hid (show Below w.heap.size w w3 from Below.trans (Below.drew (Below.alloc HbW.out hWs _)) (Row.low HR4.out (by simp; omega) hgrow))
          clear hown' hgrow
          go_wp2
          go_roundw
          case rel => exact ⟨k + 1, by omega, by go_num, R3.out, H3.out⟩
          case measure => simp [intOf]; omega
    · have hkl : k = L.length := by omega
      subst hkl
      have e1 : sclS p a L L.length = sclL p a L := by unfold sclS; rw [List.take_length]
      rw [e1] at hR hlen
      go_wp2
      go_ret
      exact ⟨_, rfl, hR.own (by omega), hb⟩
set_option maxHeartbeats 4000000 in
theorem sScaled_nil (p : Int) (b : Option Addr) (cap : Nat) (a : Int) (w : World) :
    Calls Try.prog 73 #[.int .i64 p, .slice b 0 cap, .int .i64 a] w (GivesTrmsS [] w) := by
  go_enter Try.func73, Try.ntmps73
  go_wp2_with fail
  go_loop [7, 13] (fun v i => v = .slice (some ⟨w.heap.size, 0, none⟩) 0 0 ∧ i = .int .i64 0) (fun _ _ => 0)
  case atStart => exact ⟨rfl, rfl⟩
  case round =>
    obtain ⟨rfl, rfl⟩ := hrel
    go_wp2_with fail
    go_ret
    exact ⟨_, rfl, (Row.lit0 w w.heap.size (Nat.le_refl _)).own (by simp), Below.alloc (Below.refl _ _) (Nat.le_refl _) _⟩
theorem sScaled (p : Int) (f : Value) (L : List Trm) (a : Int) (w : World) (hp : isP p = true) (hV : validB p L = true) (ha : isE p a = true) (h : Trms w f L) :
    Calls Try.prog 73 #[.int .i64 p, f, .int .i64 a] w (GivesTrmsS (sclL p a L) w) := by
  obtain ⟨hl, b, cap, rfl, h2⟩ := h
  rcases h2 with rfl | ⟨g, off, rfl, hg, hc⟩
  · have : sclL p a [] = [] := by unfold sclL; split <;> rfl
    rw [this]; exact sScaled_nil p b cap a w
  · exact sScaled_some p g off cap L a w hp hV ha hg hc
/-- what ScalePoly hands back, for all arguments -/
def sclV (p a : Int) (L : List Trm) : List Trm := if (isP p && validB p L) && isE p a then sclL p a L else []
end Go.Proofs.Ytajabchbdhjdiaa
namespace Go.Proofs.Ytajabchbdhjdiaa
open Go.RowKit
theorem PutTo.low {B S : Nat} {p : Int} {v : Value} {L L' : List Trm} {w w' : World} {e : Ending} (h : PutTo B S p v L' w e w') (hR : Row w B v L) (hS : B ≤ S) (hB : B ≤ w.heap.size) : Below B w w' := by
  obtain ⟨_, v', _, _, _, hk, _⟩ := h
  exact ⟨hk.os, hk.tape, hk.output, hk.size, fun k hk2 => hk.block k (by omega) (fun hn => by
    rcases hn with hn | hn
    · omega
    · have := (World.ownsRow.lt hR k hn).1; omega)⟩
set_option maxRecDepth 100000 in
set_option maxHeartbeats 4000000 in
theorem iPolyOf (S : Nat) (p : Int) (a : Option Addr) (cap : Nat) (L : List Trm) (w : World) (hS : SumW w S p (.slice a L.length cap)) (hT : Trms w (.slice a L.length cap) L) :
    Calls Try.prog 111 #[.pointer (some ⟨S, 0, none⟩)] w fun e w' => e = .returned (.tuple #[if (isP p && validB p L) = true then .slice a L.length cap else .slice none 0 0, .bool (isP p && validB p L)]) ∧ Below w.heap.size w w' := by
  have HF := Lib.hid (show ∀ w', Below w.heap.size w w' → (w'.cell? ⟨S, 0, none⟩ = some (.int .i64 p) ∧ w'.cell? ⟨S, 1, none⟩ = some (.slice a L.length cap)) ∧ Trms w' (.slice a L.length cap) L from fun w' hb => ⟨⟨(hS.below hb).c0, (hS.below hb).c1⟩, hT.below hb⟩)
  obtain ⟨r, hr⟩ : ∃ r, r = (isP p && validB p L) := ⟨_, rfl⟩
  rw [← hr]
  have HRR := Lib.hid hr
  clear hS hT hr
  cases r
  · go_enter Try.func111, Try.ntmps111
    go_wp2_with fail
    refine wp_region_below (by kernel_rfl) (by kernel_rfl) ?_
    (with_reducible refine wpQuiet_yes ?_ ?_; (focus (kernel_rfl)); intro K hK; go_simp; refine ⟨_, fun _ _ => rfl, ?_⟩; with_reducible refine hK _ ?_; clear hK K)
    (with_reducible refine wpQuiet_yes ?_ ?_; (focus (kernel_rfl)); intro K hK; go_simp; refine ⟨_, fun _ _ => rfl, ?_⟩; with_reducible refine hK _ ?_; clear hK K)
    (with_reducible refine wpQuiet_yes ?_ ?_; (focus (kernel_rfl)); intro K hK; go_simp; refine ⟨_, fun _ _ => rfl, ?_⟩; with_reducible refine hK _ ?_; clear hK K)
    (with_reducible refine wpQuiet_yes ?_ ?_; (focus (kernel_rfl)); intro K hK; go_simp; refine ⟨(.int .i64 p), ?_, ?_⟩; rotate_left; with_reducible refine hK _ ?_; clear hK K; rotate_left)
    · intro w' hw
      simp only [(HF.out w' hw).1.1, go_sem, Result.andThen, and_self]
    (with_reducible refine wpQuiet_yes ?_ ?_; (focus (kernel_rfl)); intro K hK; go_simp; refine ⟨_, fun _ _ => rfl, ?_⟩; with_reducible refine hK _ ?_; clear hK K)
    (with_reducible refine wpQuiet_yes ?_ ?_; (focus (kernel_rfl)); intro K hK; go_simp; refine ⟨_, fun _ _ => rfl, ?_⟩; with_reducible refine hK _ ?_; clear hK K)
    (with_reducible refine wpQuiet_yes ?_ ?_; (focus (kernel_rfl)); intro K hK; go_simp; refine ⟨_, fun _ _ => rfl, ?_⟩; with_reducible refine hK _ ?_; clear hK K)
    (with_reducible refine wpQuiet_yes ?_ ?_; (focus (kernel_rfl)); intro K hK; go_simp; refine ⟨(.slice a L.length cap), ?_, ?_⟩; rotate_left; with_reducible refine hK _ ?_; clear hK K; rotate_left)
    · intro w' hw
      simp only [(HF.out w' hw).1.2, go_sem, Result.andThen, and_self]
    (with_reducible refine wpQuiet_yes ?_ ?_; (focus (kernel_rfl)); intro K hK; go_simp; refine ⟨(.bool false), ?_, ?_⟩; rotate_left; with_reducible refine hK _ ?_; clear hK K; rotate_left)
    · intro w' hw
      exact (iPolyValid p _ L w' (HF.out w' hw).2).mono fun e w'' ⟨he, h⟩ => ⟨by rw [he, ← HRR.out], hw.trans (h.mono hw.size)⟩
    (with_reducible refine wpQuiet_yes ?_ ?_; (focus (kernel_rfl)); intro K hK; go_simp; refine ⟨_, fun _ _ => rfl, ?_⟩; with_reducible refine hK _ ?_; clear hK K)
    refine wpQuiet_nil fun w2 hb2 => ?_
    have q2 := (HF.out w2 hb2).1.2
    have Hb2 := Lib.hid hb2
    clear hb2
    simp only [Exit.then]
    go_wp2_with fail
    refine bodyPost_ret (v := .tuple #[.slice none 0 0, .bool false]) (by simp [results, Try.results111, go_sem]) rfl ⟨rfl, Hb2.out⟩
  · go_enter Try.func111, Try.ntmps111
    go_wp2_with fail
    refine wp_region_below (by kernel_rfl) (by kernel_rfl) ?_
    (with_reducible refine wpQuiet_yes ?_ ?_; (focus (kernel_rfl)); intro K hK; go_simp; refine ⟨_, fun _ _ => rfl, ?_⟩; with_reducible refine hK _ ?_; clear hK K)
    (with_reducible refine wpQuiet_yes ?_ ?_; (focus (kernel_rfl)); intro K hK; go_simp; refine ⟨_, fun _ _ => rfl, ?_⟩; with_reducible refine hK _ ?_; clear hK K)
    (with_reducible refine wpQuiet_yes ?_ ?_; (focus (kernel_rfl)); intro K hK; go_simp; refine ⟨_, fun _ _ => rfl, ?_⟩; with_reducible refine hK _ ?_; clear hK K)
    (with_reducible refine wpQuiet_yes ?_ ?_; (focus (kernel_rfl)); intro K hK; go_simp; refine ⟨(.int .i64 p), ?_, ?_⟩; rotate_left; with_reducible refine hK _ ?_; clear hK K; rotate_left)
    · intro w' hw
      simp only [(HF.out w' hw).1.1, go_sem, Result.andThen, and_self]
    (with_reducible refine wpQuiet_yes ?_ ?_; (focus (kernel_rfl)); intro K hK; go_simp; refine ⟨_, fun _ _ => rfl, ?_⟩; with_reducible refine hK _ ?_; clear hK K)
    (with_reducible refine wpQuiet_yes ?_ ?_; (focus (kernel_rfl)); intro K hK; go_simp; refine ⟨_, fun _ _ => rfl, ?_⟩; with_reducible refine hK _ ?_; clear hK K)
    (with_reducible refine wpQuiet_yes ?_ ?_; (focus (kernel_rfl)); intro K hK; go_simp; refine ⟨_, fun _ _ => rfl, ?_⟩; with_reducible refine hK _ ?_; clear hK K)
    (with_reducible refine wpQuiet_yes ?_ ?_; (focus (kernel_rfl)); intro K hK; go_simp; refine ⟨(.slice a L.length cap), ?_, ?_⟩; rotate_left; with_reducible refine hK _ ?_; clear hK K; rotate_left)
    · intro w' hw
      simp only [(HF.out w' hw).1.2, go_sem, Result.andThen, and_self]
    (with_reducible refine wpQuiet_yes ?_ ?_; (focus (kernel_rfl)); intro K hK; go_simp; refine ⟨(.bool true), ?_, ?_⟩; rotate_left; with_reducible refine hK _ ?_; clear hK K; rotate_left)
    · intro w' hw
      exact (iPolyValid p _ L w' (HF.out w' hw).2).mono fun e w'' ⟨he, h⟩ => ⟨by rw [he, ← HRR.out], hw.trans (h.mono hw.size)⟩
    (with_reducible refine wpQuiet_yes ?_ ?_; (focus (kernel_rfl)); intro K hK; go_simp; refine ⟨_, fun _ _ => rfl, ?_⟩; with_reducible refine hK _ ?_; clear hK K)
    refine wpQuiet_nil fun w2 hb2 => ?_
    have q2 := (HF.out w2 hb2).1.2
    have Hb2 := Lib.hid hb2
    clear hb2
    simp only [Exit.then]
    go_wp2_with fail
    refine bodyPost_ret (v := .tuple #[.slice a L.length cap, .bool true]) (by simp [results, Try.results111, go_sem]) rfl ⟨rfl, Hb2.out⟩
/-- the terms of the first k of a polynomial times an element, added -/
def sclK (p a : Int) (L : List Trm) (k : Nat) : List Trm := addAll p ((L.take k).map (sclT p a)) []
theorem addAll_srt {p : Int} : ∀ (xs L : List Trm), Srt L → Srt (addAll p xs L)
  | [], _, h => h
  | _ :: xs, _, h => addAll_srt xs _ (srt_addT h)
theorem addAll_els {p : Int} (hp : 0 < p) : ∀ (xs L : List Trm), (∀ x ∈ xs, 0 ≤ x.t ∧ x.t < p) → Els p L → Els p (addAll p xs L)
  | [], _, _, h => h
  | x :: xs, _, hx, h => addAll_els hp xs _ (fun y hy => hx y (by simp [hy])) (els_addT hp (hx x (by simp)) h)
theorem addAll_len {p : Int} : ∀ (xs L : List Trm), (addAll p xs L).length ≤ L.length + xs.length
  | [], _ => by simp [addAll]
  | x :: xs, L => by
    have h1 := addAll_len (p := p) xs (addT p x L)
    have h2 := len_addT (p := p) (x := x) (L := L)
    show (addAll p xs (addT p x L)).length ≤ _
    simp; omega
theorem scl_facts {p a : Int} {L : List Trm} (hp : isP p = true) (k : Nat) : Srt (sclK p a L k) ∧ Els p (sclK p a L k) ∧ (sclK p a L k).length ≤ k := by
  have hb := isP_bd hp
  refine ⟨addAll_srt _ _ List.Pairwise.nil, addAll_els (by omega) _ _ (fun x hx => ?_) (fun y hy => by cases hy), ?_⟩
  · obtain ⟨z, _, rfl⟩ := List.mem_map.1 hx
    exact emod_bd hb.1
  · have := addAll_len (p := p) ((L.take k).map (sclT p a)) []
    simp only [List.length_nil, List.length_map, List.length_take, Nat.zero_add] at this
    unfold sclK
    omega
theorem sclK_succ {p a : Int} {L : List Trm} {k : Nat} (hk : k < L.length) : sclK p a L (k + 1) = addT p (sclT p a (L.getD k default)) (sclK p a L k) := by
  unfold sclK
  rw [List.take_succ_eq_append_getElem hk, List.map_append, List.map_singleton, addAll_snoc]
  simp [List.getD_eq_getElem?_getD, hk]
set_option maxRecDepth 100000 in
set_option maxHeartbeats 8000000 in
theorem iScale_some (p : Int) (g off cap : Nat) (L : List Trm) (a : Int) (w : World) (hp : isP p = true) (hV : validB p L = true) (ha : isE p a = true) (hg : g < w.heap.size)
    (hc : ∀ j : Nat, j < L.length → TAt w g (off + j * 4) (L.getD j default)) :
    Calls Try.prog 61 #[.int .i64 p, .slice (some ⟨g, off, none⟩) L.length cap, .int .i64 a] w (GivesPB (sclL p a L) true w) := by
  have hl := validB_len hV
  have HB := Lib.hid (show ∀ w', Below w.heap.size w w' → Calls Try.prog 48 #[.int .i64 p, .slice (some ⟨g, off, none⟩) L.length cap] w' fun e w'' => e = .returned (.bool true) ∧ Below w'.heap.size w' w'' from
    fun w' hb => (iPolyValid p _ L w' ⟨by omega, _, cap, rfl, .inr ⟨g, off, rfl, Nat.lt_of_lt_of_le hg hb.size, fun j hj => (hc j hj).below hb hg⟩⟩).mono fun e w'' h => by rw [hp, hV] at h; exact h)
  have HC := Lib.hid hc
  have HV := Lib.hid hV
  have HP := Lib.hid hp
  have HA := Lib.hid ha
  clear hc hV hp ha
  go_enter Try.func61, Try.ntmps61
  go_wp2_with fail
  refine (HB.out _ (Below.refl _ _)).mono ?_
  rintro e w1 ⟨rfl, hb1⟩
  have H1 := Lib.hid hb1
  clear hb1
  go_wp2_with (go_at_call 91; refine (iAE1_is true p a HP.out HA.out _ _ (by simp)).mono ?_; rintro e w2 ⟨rfl, rfl⟩)
  obtain ⟨W, hW⟩ : ∃ W, W = (w1.alloc (Obj.cells #[.int .i64 a] 3)).alloc (Obj.cells #[.int .i64 p, .slice none 0 0] 125) := ⟨_, rfl⟩
  have HW := Lib.hid (show SumW W (w1.heap.size + 1) p (.slice none 0 0) ∧ Below w.heap.size w W ∧ w.heap.size ≤ w1.heap.size by
    have h1 := H1.out.size
    rw [hW]
    refine ⟨⟨by simp [go_sem], by simp [go_sem], World.frozen?_alloc_at (w := w1.alloc _) _ _ _ 0 (by simp), World.frozen?_alloc_at (w := w1.alloc _) _ _ _ 1 (by simp), by simp⟩, Below.alloc (Below.alloc H1.out h1 _) (by simp; omega) _, h1⟩)
  rw [← hW]
  clear hW
  obtain ⟨S, hSe⟩ : ∃ S, S = w1.heap.size + 1 := ⟨_, rfl⟩
  rw [← hSe] at HW ⊢
  have hSB : w.heap.size ≤ S := by have := HW.out.2.2; omega
  clear hSe
  go_loopw [26] (fun i wr => ∃ (k : Nat) (v : Value), k ≤ L.length ∧ i = .int .i64 k ∧ SumW wr S p v ∧ Row wr w.heap.size v (sclK p a L k) ∧ v.ownBlock ≠ some S ∧ Below w.heap.size w wr) (fun i _ => L.length - (intOf i).toNat)
  case atStart => exact ⟨0, _, by omega, rfl, HW.out.1, Row.nil _ _, by simp [Value.ownBlock], HW.out.2.1⟩
  case round =>
    clear HW
    obtain ⟨k, v, hk, rfl, hS, hR, hv, hb⟩ := hrel
    by_cases hlt : k < L.length
    · have hltp : (k : Int) < (L.length : Int) := by omega
      have hk0 : (0 : Int) ≤ (k : Int) := by omega
      obtain ⟨a0, a1, a2, a3⟩ := (HC.out k hlt).below hb hg
      obtain ⟨x, hx⟩ : ∃ x, x = L.getD k default := ⟨_, rfl⟩
      rw [← hx] at a0 a1 a2 a3
      have hpw := validB_pows HV.out hlt hx
      have hel := validB_el HV.out hlt hx
      have HM := Lib.hid (fun w => by
        have := iMulT p x ⟨0, 0, 0, a⟩ w hpw ⟨⟨Int.le_refl 0, (by decide : (0 : Int) ≤ 9)⟩, ⟨Int.le_refl 0, (by decide : (0 : Int) ≤ 9)⟩, ⟨Int.le_refl 0, (by decide : (0 : Int) ≤ 9)⟩⟩
        simp only [Int.add_zero] at this
        rw [mulV_is HP.out (isE_iff.2 (by omega)) HA.out] at this
        exact this)
      have HXK := Lib.hid (show addT p (sclT p a x) (sclK p a L k) = sclK p a L (k + 1) by rw [hx, ← sclK_succ hlt])
      have HS := Lib.hid hS
      have HR := Lib.hid hR
      have HV2 := Lib.hid hv
      have Hb := Lib.hid hb
      clear hx hS hR hv hb hpw hel
      go_wp2_with fail
      refine (HM.out _).mono ?_
      rintro e w3 ⟨rfl, hb3⟩
      have Hr := Lib.hid ((Below.alloc (Below.refl _ _) (Nat.le_refl _) (Obj.cells #[.int .i64 x.a, .int .i64 x.b, .int .i64 x.c, .int .i64 x.t] 69)).trans (hb3.mono (by simp)))
      have H3 := Lib.hid (Hb.out.trans (Hr.out.mono Hb.out.size))
      clear hb3
      go_wp2_with fail
      have hf := scl_facts (a := a) (L := L) HP.out k
      have hpb := isP_bd HP.out
      refine (iPut w.heap.size S p v (sclK p a L k) (sclT p a x) w3 (HS.out.below Hr.out) (HR.out.below Hr.out) H3.out.size HP.out hf.1 hf.2.1 (isE_iff.2 (emod_bd hpb.1)) (by omega) HV2.out).mono ?_
      rintro e w4 hP4
      have hlow := hP4.low (HR.out.below Hr.out) hSB H3.out.size
      obtain ⟨rfl, v', hS', hR', hv', _, _⟩ := hP4
      rw [HXK.out] at hR'
      have HQ := Lib.hid (And.intro hS' (And.intro hR' (And.intro hv' (H3.out.trans hlow))))
      clear hS' hR' hv' hlow hf hpb
      go_wp2_with fail
      go_roundw
      case rel => exact ⟨k + 1, v', by omega, by go_num, HQ.out.1, HQ.out.2.1, HQ.out.2.2.1, HQ.out.2.2.2⟩
      case measure => simp [intOf]; omega
    · have hkl : k = L.length := by omega
      subst hkl
      have hf := scl_facts (a := a) (L := L) HP.out L.length
      have hown := hR.own (by omega)
      have e1 : sclK p a L L.length = sclL p a L := by
        have := scl_addAll HP.out HA.out (validB_srt HV.out) (validB_els HV.out) L.length (Nat.le_refl _)
        unfold sclK
        rw [this, List.take_length]
      rw [e1] at hown
      obtain ⟨hl2, ao, cap2, rfl, _⟩ := hown.trms
      have HO := Lib.hid hown
      have HS := Lib.hid hS
      have Hb := Lib.hid hb
      have HVV := Lib.hid (scl_valid HP.out HA.out HV.out)
      clear hown hS hb hR hf e1 hv
      go_wp2_with fail
      refine (iPolyOf S p ao cap2 (sclL p a L) _ HS.out HO.out.trms).mono ?_
      rintro e w5 ⟨rfl, hb5⟩
      rw [HVV.out, HP.out]
      have H5 := Lib.hid (And.intro (HO.out.below hb5) (Hb.out.trans (hb5.mono Hb.out.size)))
      clear hb5
      go_wp2_with fail
      refine bodyPost_ret (v := .tuple #[.slice ao (sclL p a L).length cap2, .bool true]) (by simp [results, Try.results61, go_sem]) rfl ⟨_, rfl, H5.out.1, H5.out.2⟩
set_option maxHeartbeats 4000000 in
theorem iScale_nil (p : Int) (b : Option Addr) (cap : Nat) (a : Int) (w : World) (hp : isP p = true) (ha : isE p a = true) :
    Calls Try.prog 61 #[.int .i64 p, .slice b 0 cap, .int .i64 a] w (GivesPB [] true w) := by
  have HB := Lib.hid (show ∀ w', Calls Try.prog 48 #[.int .i64 p, .slice b 0 cap] w' fun e w'' => e = .returned (.bool true) ∧ Below w'.heap.size w' w'' from
    fun w' => (iPolyValid p _ [] w' ⟨by simp, _, cap, rfl, .inl rfl⟩).mono fun e w'' h => by rw [hp] at h; exact h)
  have HP := Lib.hid hp
  have HA := Lib.hid ha
  clear hp ha
  go_enter Try.func61, Try.ntmps61
  go_wp2_with fail
  refine (HB.out _).mono ?_
  rintro e w1 ⟨rfl, hb1⟩
  have H1 := Lib.hid hb1
  clear hb1
  go_wp2_with (go_at_call 91; refine (iAE1_is true p a HP.out HA.out _ _ (by simp)).mono ?_; rintro e w2 ⟨rfl, rfl⟩)
  obtain ⟨W, hW⟩ : ∃ W, W = (w1.alloc (Obj.cells #[.int .i64 a] 3)).alloc (Obj.cells #[.int .i64 p, .slice none 0 0] 125) := ⟨_, rfl⟩
  have HW := Lib.hid (show SumW W (w1.heap.size + 1) p (.slice none 0 0) ∧ Below w.heap.size w W ∧ w.heap.size ≤ w1.heap.size by
    have h1 := H1.out.size
    rw [hW]
    refine ⟨⟨by simp [go_sem], by simp [go_sem], World.frozen?_alloc_at (w := w1.alloc _) _ _ _ 0 (by simp), World.frozen?_alloc_at (w := w1.alloc _) _ _ _ 1 (by simp), by simp⟩, Below.alloc (Below.alloc H1.out h1 _) (by simp; omega) _, h1⟩)
  rw [← hW]
  clear hW
  go_loop [26] (fun i => i = .int .i64 0) (fun _ => 0)
  case atStart => rfl
  case round =>
    obtain rfl := hrel
    go_wp2_with fail
    refine (iPolyOf (w1.heap.size + 1) p none 0 [] _ HW.out.1 ⟨by simp, _, 0, rfl, .inl rfl⟩).mono ?_
    rintro e w5 ⟨rfl, hb5⟩
    rw [validB_nil, HP.out]
    have H5 := Lib.hid (HW.out.2.1.trans (hb5.mono HW.out.2.1.size))
    clear hb5
    go_wp2_with fail
    refine bodyPost_ret (v := .tuple #[.slice none 0 0, .bool true]) (by simp [results, Try.results61, go_sem]) rfl ⟨_, rfl, ⟨by simp, none, 0, rfl, .inl rfl⟩, H5.out⟩
set_option maxHeartbeats 4000000 in
theorem iScale_no (p : Int) (f : Value) (L : List Trm) (a : Int) (w : World) (h : Trms w f L) (hn : ((isP p && validB p L) && isE p a) = false) :
    Calls Try.prog 61 #[.int .i64 p, f, .int .i64 a] w (GivesPB [] false w) := by
  have HB := Lib.hid (show Calls Try.prog 48 #[.int .i64 p, f] w fun e w'' => e = .returned (.bool (isP p && validB p L)) ∧ Below w.heap.size w w'' from iPolyValid p f L w h)
  cases hv : (isP p && validB p L)
  · have HV := Lib.hid hv
    clear hv h hn
    go_enter Try.func61, Try.ntmps61
    go_wp2_with fail
    refine HB.out.mono ?_
    rintro e w1 ⟨rfl, hb1⟩
    rw [HV.out]
    go_wp2_with fail
    refine bodyPost_ret (v := .tuple #[.slice none 0 0, .bool false]) (by simp [results, Try.results61, go_sem]) rfl ⟨_, rfl, ⟨by simp, none, 0, rfl, .inl rfl⟩, hb1⟩
  · have HV := Lib.hid hv
    have HP := Lib.hid (show isP p = true by simp only [Bool.and_eq_true] at hv; exact hv.1)
    have HA := Lib.hid (show isE p a = false by rw [hv, Bool.true_and] at hn; exact hn)
    clear hv h hn
    go_enter Try.func61, Try.ntmps61
    go_wp2_with fail
    refine HB.out.mono ?_
    rintro e w1 ⟨rfl, hb1⟩
    rw [HV.out]
    go_wp2_with (go_at_call 91; refine (iAE1_is false p a HP.out HA.out _ _ (by simp)).mono ?_; rintro e w2 ⟨rfl, rfl⟩)
    refine bodyPost_ret (v := .tuple #[.slice none 0 0, .bool false]) (by simp [results, Try.results61, go_sem]) rfl ⟨_, rfl, ⟨by simp, none, 0, rfl, .inl rfl⟩, Below.alloc hb1 hb1.size _⟩
theorem iScalePoly (p : Int) (f : Value) (L : List Trm) (a : Int) (w : World) (h : Trms w f L) :
    Calls Try.prog 61 #[.int .i64 p, f, .int .i64 a] w (GivesPB (sclV p a L) ((isP p && validB p L) && isE p a) w) := by
  unfold sclV
  cases hn : ((isP p && validB p L) && isE p a)
  · exact iScale_no p f L a w h hn
  · have hn2 := hn
    simp only [Bool.and_eq_true] at hn2
    obtain ⟨⟨hp, hV⟩, ha⟩ := hn2
    obtain ⟨hl, b, cap, rfl, h2⟩ := h
    rcases h2 with rfl | ⟨g, off, rfl, hg, hc⟩
    · have : sclL p a [] = [] := by unfold sclL; split <;> rfl
      simp only [if_true, this]
      exact iScale_nil p b cap a w hp ha
    · exact iScale_some p g off cap L a w hp hV ha hg hc
end Go.Proofs.Ytajabchbdhjdiaa
