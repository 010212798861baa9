/-
  pointsWith of the program: it counts when it is asked for the first time. Conditions: what the struct holds is known.
  CountValues, IsOnto and IsBalanced of the program. Conditions: what the slice holds is known.
  CountValues, IsOnto and IsBalanced of the model. Conditions: what the slice holds is known.
  The walk of the exact law of CountValues. Conditions: none but that the slices read as lists.
  The walk of the exact law of IsOnto. Conditions: none but that the slices read as lists.
  The walk of the exact law of IsBalanced. Conditions: none but that the slices read as lists.
-/
import Derived.Test.YtajabchbdhjdiaaBb1
import Derived.Test.YtajabchbdhjdiaaBb2
import Derived.Deep.Cut
import Derived.Test.YtajabchbdhjdiaaBa29
import Derived.Test.YtajabchbdhjdiaaBa14
import Derived.Test.YtajabchbdhjdiaaBa5
namespace Go.Proofs.Ytajabchbdhjdiaa
set_option linter.unusedVariables false
open Go.RowKit Go.Shelf
theorem CpW.word {b : Nat} {W : World} {p : Int} {f : Value} {d s : Int} {C : Nat → Int} (h : CpW b W p f d s C) (d' : Int) : CpW b (W.setCell ⟨b, 2, none⟩ (.int .u32 d')) p f d' s C := by
  have ne : ∀ j : Nat, j ≠ 2 → (⟨b, 2, none⟩ : Addr) ≠ ⟨b, j, none⟩ := fun j hj e => hj (by have := congrArg Addr.off e; simpa using this.symm)
  refine ⟨?_, ?_, ?_, ?_, fun j hj => ?_, fun j hj => by rw [World.frozen?_setCell]; exact h.fz j hj⟩
  · rw [World.cell?_setCell_other _ _ _ _ (ne 0 (by omega))]; exact h.cp
  · rw [World.cell?_setCell_other _ _ _ _ (ne 1 (by omega))]; exact h.cf
  · exact World.cell?_setCell_same _ _ _ h.cd
  · rw [World.cell?_setCell_other _ _ _ _ (ne 3 (by omega))]; exact h.cs
  · rw [World.cell?_setCell_other _ _ _ _ (ne (5 + j) (by omega))]; exact h.cc j hj
theorem CpW.lock {b : Nat} {W : World} {p : Int} {f : Value} {d s : Int} {C : Nat → Int} (h : CpW b W p f d s C) (s' : Int) : CpW b (W.setCell ⟨b, 3, none⟩ (.int .i32 s')) p f d s' C := by
  have ne : ∀ j : Nat, j ≠ 3 → (⟨b, 3, none⟩ : Addr) ≠ ⟨b, j, none⟩ := fun j hj e => hj (by have := congrArg Addr.off e; simpa using this.symm)
  refine ⟨?_, ?_, ?_, ?_, fun j hj => ?_, fun j hj => by rw [World.frozen?_setCell]; exact h.fz j hj⟩
  · rw [World.cell?_setCell_other _ _ _ _ (ne 0 (by omega))]; exact h.cp
  · rw [World.cell?_setCell_other _ _ _ _ (ne 1 (by omega))]; exact h.cf
  · rw [World.cell?_setCell_other _ _ _ _ (ne 2 (by omega))]; exact h.cd
  · exact World.cell?_setCell_same _ _ _ h.cs
  · rw [World.cell?_setCell_other _ _ _ _ (ne (5 + j) (by omega))]; exact h.cc j hj
theorem OneW.set {b : Nat} (W : World) (o : Nat) (v : Value) : OneW b W (W.setCell ⟨b, o, none⟩ v) :=
  ⟨rfl, rfl, rfl, by simp, fun k hk hn => Below.heap_setCell _ _ _ _ hn⟩
theorem OneW.drew {b : Nat} (W : World) : OneW b W W.drew := ⟨rfl, rfl, rfl, Nat.le_refl _, fun _ _ _ => rfl⟩
/-- the struct, before or after its counts are made -/
def PwS (b : Nat) (W : World) (P : Nat) (f : Value) (L : List Trm) (r : Bool) : Prop := if r = true then CpW b W P f 1 0 (ctN P L (patX P P)) else CpW b W P f 0 0 (fun _ => 0)
theorem PwS.heap {b : Nat} {W W' : World} {P : Nat} {f : Value} {L : List Trm} {r : Bool} (h : PwS b W P f L r) (e : W'.heap[b]? = W.heap[b]?) : PwS b W' P f L r := by
  unfold PwS at h ⊢
  cases r
  · exact CpW.heap h e
  · exact CpW.heap h e
theorem PwS.lt {b : Nat} {W : World} {P : Nat} {f : Value} {L : List Trm} {r : Bool} (h : PwS b W P f L r) : b < W.heap.size := by
  unfold PwS at h
  cases r
  · exact CpW.lt h
  · exact CpW.lt h
set_option maxRecDepth 100000 in
set_option maxHeartbeats 8000000 in
theorem iPw (P : Nat) (hp : isP (P : Int) = true) (b : Nat) (a : Option Addr) (c : Nat) (L : List Trm) (r : Bool) (m : Nat) (hm : m < 13) (w : World) (hV : validB P L = true) (h : PwS b w P (.slice a L.length c) L r) (hT : Trms w (.slice a L.length c) L) (hne : L = [] ∨ ∀ g off, a = some ⟨g, off, none⟩ → g < b) :
    Calls Try.prog 81 #[.pointer (some ⟨b, 0, none⟩), .int .i64 m] w fun e w' => e = .returned (.int .i64 (ctN P L (patX P P) m)) ∧ PwS b w' P (.slice a L.length c) L true ∧ OneW b w w' := by
  have hmf : ∀ (fn : Fn) (first cap : Array Value) (w : World), (Instr.makeFunc fn first cap).run Try.prog w = .ok (.func fn first cap) w := fun _ _ _ _ => rfl
  have hm0 : (0 : Int) ≤ (m : Int) := by omega
  have hm1 : (m : Int) < 13 := by omega
  obtain ⟨cm, hcm⟩ : ∃ cm, cm = ctN P L (patX P P) m := ⟨_, rfl⟩
  have HCM := Lib.hid hcm
  rw [← hcm]
  cases r
  · have hC : CpW b w P (.slice a L.length c) 0 0 (fun _ => 0) := h
    have hb := hC.lt
    have HDO := Lib.hid (do_first7 b 2 126 #[.pointer (some ⟨b, 0, none⟩)] w (fun w1 => CpW b w1 P (.slice a L.length c) 0 1 (ctN P L (patX P P)) ∧ OneW b w w1) (enters_of Try.func126 (by kernel_rfl) rfl) hC.cd hC.cs (hC.fz 3 (by omega))
      ((iCountP P hp b a c L 0 1 _ hV (hC.lock 1) ((OneW.set w 3 _).trms hT (hne.imp id (fun h g off hg e => by have := h g off hg; omega))) hne).mono fun e w' ⟨h1, h2, h3⟩ => ⟨h1, ⟨h2.cd, h2.cs, h2.fz 2 (by omega), h2.fz 3 (by omega)⟩, h2, (OneW.set w 3 _).trans h3⟩))
    clear hC h hT hV hp hne hcm
    go_enter Try.func81, Try.ntmps81
    go_wp2_with fail
    refine HDO.out.mono ?_
    rintro e w2 ⟨rfl, w1, ⟨h1, h2⟩, hw2⟩
    have H3 := Lib.hid (show CpW b w2 P (.slice a L.length c) 1 0 (ctN P L (patX P P)) ∧ OneW b w w2 from by
      have k1 : CpW b w1.drew P (.slice a L.length c) 0 1 (ctN P L (patX P P)) := h1.heap rfl
      rw [hw2]
      exact ⟨(k1.word 1).lock 0, (h2.trans (OneW.drew w1)).trans ((OneW.set _ 2 _).trans (OneW.set _ 3 _))⟩)
    have hcell : w2.cell? ⟨b, 5 + m, none⟩ = some (.int .i64 cm) := by rw [HCM.out]; exact H3.out.1.cc m hm
    clear h1 h2 hw2
    go_wp2_with fail
    go_ret
    exact ⟨rfl, H3.out⟩
  · have hC : CpW b w P (.slice a L.length c) 1 0 (ctN P L (patX P P)) := h
    have HC := Lib.hid hC
    have HDO := Lib.hid (do_done7 ⟨b, 2, none⟩ 1 (by decide) (.func (.func 126) #[.pointer (some ⟨b, 0, none⟩)] #[]) w hC.cd)
    have hcell : w.cell? ⟨b, 5 + m, none⟩ = some (.int .i64 cm) := by rw [hcm]; exact hC.cc m hm
    clear hC h hT hV hp hne hcm
    go_enter Try.func81, Try.ntmps81
    go_wp2_with (go_at_call 125; refine HDO.out.mono ?_; rintro e w2 ⟨rfl, rfl⟩)
    go_ret
    exact ⟨rfl, HC.out, OneW.refl _ _⟩
end Go.Proofs.Ytajabchbdhjdiaa
namespace Go.Proofs.Ytajabchbdhjdiaa
set_option linter.unusedVariables false
open Go.RowKit
/-- the counts of the first k elements -/
def cvK (p : Int) (L : List Trm) (k : Nat) : List Int := (List.range k).map (ctN p L (patX p.toNat p.toNat))
def cvV (p : Int) (L : List Trm) : List Int := if (isP p && validB p L) = true then cvK p L p.toNat else []
def cvB (p : Int) (L : List Trm) (B : Int → Bool) : Bool := (isP p && validB p L) && (cvK p L p.toNat).all B
theorem cvK_len (p : Int) (L : List Trm) (k : Nat) : (cvK p L k).length = k := by simp [cvK]
theorem cvK_next (p : Int) (L : List Trm) (k : Nat) : cvK p L (k + 1) = cvK p L k ++ [ctN p L (patX p.toNat p.toNat) k] := by simp [cvK, List.range_succ]
theorem cvK_no {p : Int} {L : List Trm} {B : Int → Bool} {k C : Nat} (hk : k < C) (h : B (ctN p L (patX p.toNat p.toNat) k) = false) : (cvK p L C).all B = false :=
  List.all_eq_false.2 ⟨_, List.mem_map.2 ⟨k, List.mem_range.2 hk, rfl⟩, by simp [h]⟩
theorem cvK_yes {p : Int} {L : List Trm} {B : Int → Bool} {C : Nat} (h : ∀ k, k < C → B (ctN p L (patX p.toNat p.toNat) k) = true) : (cvK p L C).all B = true :=
  List.all_eq_true.2 fun x hx => by
    obtain ⟨k, hk, rfl⟩ := List.mem_map.1 hx
    exact h k (List.mem_range.1 hk)
/-- the struct as it is laid -/
theorem cpw_new (w1 : World) (P : Nat) (a : Option Addr) (n c : Nat) (ty : TypeId) :
    CpW w1.heap.size (w1.alloc (Obj.cells #[.int .i64 P, .slice a n c, .int .u32 0, .int .i32 0, .int .u32 0, .int .i64 0, .int .i64 0, .int .i64 0, .int .i64 0, .int .i64 0, .int .i64 0, .int .i64 0, .int .i64 0, .int .i64 0, .int .i64 0, .int .i64 0, .int .i64 0, .int .i64 0] ty)) P (.slice a n c) 0 0 (fun _ => 0) := by
  refine ⟨World.cell?_alloc_at _ _ _ 0 rfl, World.cell?_alloc_at _ _ _ 1 rfl, World.cell?_alloc_at _ _ _ 2 rfl, World.cell?_alloc_at _ _ _ 3 rfl, fun j hj => ?_, fun j hj => World.frozen?_alloc_at _ _ _ j rfl⟩
  have h : j = 0 ∨ j = 1 ∨ j = 2 ∨ j = 3 ∨ j = 4 ∨ j = 5 ∨ j = 6 ∨ j = 7 ∨ j = 8 ∨ j = 9 ∨ j = 10 ∨ j = 11 ∨ j = 12 := by omega
  rcases h with rfl | rfl | rfl | rfl | rfl | rfl | rfl | rfl | rfl | rfl | rfl | rfl | rfl <;> exact World.cell?_alloc_at _ _ _ _ rfl
set_option maxRecDepth 100000 in
set_option maxHeartbeats 8000000 in
theorem iCountValues (p : Int) (f : Value) (L : List Trm) (w : World) (h : Trms w f L) :
    Calls Try.prog 35 #[.int .i64 p, f] w (GivesN (cvV p L) w) := by
  obtain ⟨i0, hi, hz0, hz1, hz2⟩ := info_parts infoN
  obtain ⟨l0, fa, fc, rfl, l1⟩ := h
  have HT := Lib.hid (show Trms w (.slice fa L.length fc) L from ⟨l0, fa, fc, rfl, l1⟩)
  have HPV := Lib.hid (iPolyValid p (.slice fa L.length fc) L w HT.out)
  cases hV : (isP p && validB p L)
  · have HV := Lib.hid (show cvV p L = [] by unfold cvV; rw [hV]; rfl)
    rw [hV] at HPV
    rw [HV.out]
    clear hV l1
    go_enter Try.func35, Try.ntmps35
    go_wp2_with fail
    refine HPV.out.mono ?_
    rintro e w2 ⟨rfl, hb⟩
    have HB := Lib.hid hb
    clear hb
    go_wp2_with fail
    go_ret
    exact ⟨_, rfl, RowN.nil _ _, HB.out⟩
  · have hpv : isP p = true ∧ validB p L = true := by simpa using hV
    have HV := Lib.hid (show cvV p L = cvK p L p.toNat by unfold cvV; rw [hV]; rfl)
    rw [hV] at HPV
    rw [HV.out]
    have hpb := isP_bd hpv.1
    obtain ⟨P, hP⟩ : ∃ P : Nat, P = p.toNat := ⟨_, rfl⟩
    have hpP : p = (P : Int) := by omega
    subst hpP
    have hne : L = [] ∨ ∀ g off, fa = some ⟨g, off, none⟩ → g < w.heap.size := by
      rcases l1 with h | ⟨g2, o2, h1, h2, _⟩
      · exact .inl h
      · refine .inr (fun g off hg => ?_)
        rw [hg] at h1; cases h1; exact h2
    have HNE := Lib.hid hne
    have HPW := Lib.hid (fun (b : Nat) (r : Bool) (m : Nat) (hm : m < P) (w' : World) (hb : w.heap.size ≤ b) (hs : PwS b w' P (.slice fa L.length fc) L r) (ho : Below w.heap.size w w') =>
      iPw P hpv.1 b fa fc L r m (by omega) w' hpv.2 hs (HT.out.below ho) (HNE.out.imp id (fun h g off hg => by have := h g off hg; omega)))
    rw [show ((P : Nat) : Int).toNat = P from by omega]
    clear hV l1 hne hP HV
    go_enter Try.func35, Try.ntmps35
    go_wp2_with fail
    refine HPV.out.mono ?_
    rintro e w1 ⟨rfl, hb⟩
    have HB := Lib.hid hb
    clear hb
    go_upto_region 4 with fail
    have hnew := cpw_new w1 P fa L.length fc 99
    obtain ⟨W, hW⟩ : ∃ W, W = w1.alloc (Obj.cells #[.int .i64 P, .slice fa L.length fc, .int .u32 0, .int .i32 0, .int .u32 0, .int .i64 0, .int .i64 0, .int .i64 0, .int .i64 0, .int .i64 0, .int .i64 0, .int .i64 0, .int .i64 0, .int .i64 0, .int .i64 0, .int .i64 0, .int .i64 0, .int .i64 0] 99) := ⟨_, rfl⟩
    obtain ⟨V, hVV⟩ : ∃ V : Value, V = .agg #[.int .i64 P, .slice fa L.length fc, .int .u32 0, .int .i32 0, .int .u32 0, .int .i64 0, .int .i64 0, .int .i64 0, .int .i64 0, .int .i64 0, .int .i64 0, .int .i64 0, .int .i64 0, .int .i64 0, .int .i64 0, .int .i64 0, .int .i64 0, .int .i64 0] := ⟨_, rfl⟩
    have HBW := Lib.hid (show Below w.heap.size w W from by rw [hW]; exact HB.out.alloc HB.out.size _)
    rw [← hW] at hnew
    rw [← hW, ← hVV]
    obtain ⟨b, hb⟩ : ∃ b, b = w1.heap.size := ⟨_, rfl⟩
    have hwb : w.heap.size ≤ b := by rw [hb]; exact HB.out.size
    have hsW : W.heap.size = b + 1 := by rw [hW, hb]; simp
    rw [← hb] at hnew
    rw [← hb]
    have HS0 := Lib.hid (show PwS b W P (.slice fa L.length fc) L false from hnew)
    clear hnew hW hVV hb
    go_wp2_with fail
    go_loopw [6, 16] (fun v i wr => ∃ (k : Nat) (r : Bool), k ≤ P ∧ i = .int .i64 k ∧ PwS b wr P (.slice fa L.length fc) L r ∧ RowN wr (b + 1) v (cvK P L k) ∧ Below w.heap.size w wr) (fun _ i _ => P - (intOf i).toNat)
    case atStart => exact ⟨0, false, by omega, rfl, HS0.out, RowN.nil _ _, HBW.out⟩
    case round =>
      obtain ⟨k, r, hk, rfl, hs, hrow, hbel⟩ := hrel
      have HSR := Lib.hid hs
      have HROW := Lib.hid hrow
      have HB := Lib.hid hbel
      have hbW := hs.lt
      clear hs hrow hbel HS0
      by_cases hlt : k < P
      · have hltp : (k : Int) < (P : Int) := by omega
        have hk0 : (0 : Int) ≤ (k : Int) := by omega
        have HN := Lib.hid (cvK_next P L k)
        obtain ⟨cm, hcm⟩ : ∃ cm, cm = ctN P L (patX P P) k := ⟨_, rfl⟩
        have HCALL := Lib.hid (HPW.out b r k hlt wr hwb HSR.out HB.out)
        rw [← hcm] at HCALL
        rw [show ((P : Nat) : Int).toNat = P from by omega, ← hcm] at HN
        have HLE := Lib.hid (cvK_len P L k)
        clear hcm
        go_wp2_with fail
        refine HCALL.out.mono ?_
        rintro e w2 ⟨rfl, hs2, ho2⟩
        have HS2 := Lib.hid hs2
        have HR2 := Lib.hid (HROW.out.heap (D := w2) (fun g hg => by have := HROW.out.lt g hg; exact ho2.same g this.2 (by omega)))
        have HB2 := Lib.hid (ho2.below HB.out hwb HB.out.size)
        have hs2s := ho2.size
        have hsb := HB2.out.size
        have hbW2 : b < w2.heap.size := by omega
        clear hs2 ho2
        go_wp2_with (at_builtin; refine wpList_append_own _ rfl _ _ 24 rfl (b + 1) 3 i0 (.int .i64 0) 1 8 Try.underlying24 hi hz0 hz1 hz2 rfl (by decide) _ _ _ rfl ((show w2.ownsRow _ _ _ _ _ _ from HR2.out).alloc _) ⟨w2.heap.size, 0, none⟩ 1 1 [.int .i64 cm] rfl rfl ?c1 ?c2 ?c3 ?c4 ?c5 ?_)
        case c1 =>
          intro j u hj
          match j, hj with
          | 0, hj => simp at hj; subst hj; simp [Addr.add]
        case c2 => intro u hu; simp at hu; subst hu; rfl
        case c3 => rw [HLE.out]; unfold maxLen; omega
        case c4 => rw [HLE.out]; omega
        case c5 => simp; omega
        intro v' w3 hown' hgrow _
        have R1 := Lib.hid (rowN_snoc (w := w2) HR2.out (Below.mono (Below.refl w2.heap.size w2) (by omega : b + 1 ≤ w2.heap.size)) (by omega) hown' hgrow)
        have HS3 := Lib.hid (HS2.out.heap (W' := w3) (by
          rw [hgrow.block b (by simp; omega) (fun e => by have := (HR2.out.lt b e.symm).1; omega)]
          exact Below.heap_alloc _ _ _ hbW2))
        have HB3 := Lib.hid (HB2.out.trans (R1.out.2.mono (by omega : w.heap.size ≤ b + 1)))
        clear hown' hgrow
        go_wp2_with fail
        go_roundw
        case rel => exact ⟨k + 1, true, by omega, by go_num, HS3.out, by rw [HN.out]; exact R1.out.1, HB3.out⟩
        case measure => simp [intOf]; omega
      · have hkp : k = P := by omega
        subst hkp
        have hnl : ¬ (k : Int) < (k : Int) := by omega
        go_wp2_with fail
        go_ret
        exact ⟨_, rfl, HROW.out.base (by omega), HB.out⟩
set_option maxRecDepth 100000 in
set_option maxHeartbeats 8000000 in
theorem iIsOnto (p : Int) (f : Value) (L : List Trm) (w : World) (h : Trms w f L) :
    Calls Try.prog 33 #[.int .i64 p, f] w fun e w' => e = .returned (.bool (cvB p L (fun n : Int => n != 0))) ∧ Below w.heap.size w w' := by
  obtain ⟨i0, hi, hz0, hz1, hz2⟩ := info_parts infoN
  obtain ⟨l0, fa, fc, rfl, l1⟩ := h
  have HT := Lib.hid (show Trms w (.slice fa L.length fc) L from ⟨l0, fa, fc, rfl, l1⟩)
  have HPV := Lib.hid (iPolyValid p (.slice fa L.length fc) L w HT.out)
  cases hV : (isP p && validB p L)
  · have HV := Lib.hid (show cvB p L (fun n : Int => n != 0) = false by unfold cvB; rw [hV]; rfl)
    rw [hV] at HPV
    rw [HV.out]
    clear hV l1
    go_enter Try.func33, Try.ntmps33
    go_wp2_with fail
    refine HPV.out.mono ?_
    rintro e w2 ⟨rfl, hb⟩
    have HB := Lib.hid hb
    clear hb
    go_wp2_with fail
    go_ret
    exact ⟨rfl, HB.out⟩
  · have hpv : isP p = true ∧ validB p L = true := by simpa using hV
    have HV := Lib.hid (show cvB p L (fun n : Int => n != 0) = (cvK p L p.toNat).all (fun n : Int => n != 0) by unfold cvB; rw [hV]; rfl)
    rw [hV] at HPV
    rw [HV.out]
    have hpb := isP_bd hpv.1
    obtain ⟨P, hP⟩ : ∃ P : Nat, P = p.toNat := ⟨_, rfl⟩
    have hpP : p = (P : Int) := by omega
    subst hpP
    have hne : L = [] ∨ ∀ g off, fa = some ⟨g, off, none⟩ → g < w.heap.size := by
      rcases l1 with h | ⟨g2, o2, h1, h2, _⟩
      · exact .inl h
      · refine .inr (fun g off hg => ?_)
        rw [hg] at h1; cases h1; exact h2
    have HNE := Lib.hid hne
    have HPW := Lib.hid (fun (b : Nat) (r : Bool) (m : Nat) (hm : m < P) (w' : World) (hb : w.heap.size ≤ b) (hs : PwS b w' P (.slice fa L.length fc) L r) (ho : Below w.heap.size w w') =>
      iPw P hpv.1 b fa fc L r m (by omega) w' hpv.2 hs (HT.out.below ho) (HNE.out.imp id (fun h g off hg => by have := h g off hg; omega)))
    rw [show ((P : Nat) : Int).toNat = P from by omega]
    clear hV l1 hne hP HV
    go_enter Try.func33, Try.ntmps33
    go_wp2_with fail
    refine HPV.out.mono ?_
    rintro e w1 ⟨rfl, hb⟩
    have HB := Lib.hid hb
    clear hb
    go_upto_region 4 with fail
    have hnew := cpw_new w1 P fa L.length fc 99
    obtain ⟨W, hW⟩ : ∃ W, W = w1.alloc (Obj.cells #[.int .i64 P, .slice fa L.length fc, .int .u32 0, .int .i32 0, .int .u32 0, .int .i64 0, .int .i64 0, .int .i64 0, .int .i64 0, .int .i64 0, .int .i64 0, .int .i64 0, .int .i64 0, .int .i64 0, .int .i64 0, .int .i64 0, .int .i64 0, .int .i64 0] 99) := ⟨_, rfl⟩
    obtain ⟨V, hVV⟩ : ∃ V : Value, V = .agg #[.int .i64 P, .slice fa L.length fc, .int .u32 0, .int .i32 0, .int .u32 0, .int .i64 0, .int .i64 0, .int .i64 0, .int .i64 0, .int .i64 0, .int .i64 0, .int .i64 0, .int .i64 0, .int .i64 0, .int .i64 0, .int .i64 0, .int .i64 0, .int .i64 0] := ⟨_, rfl⟩
    have HBW := Lib.hid (show Below w.heap.size w W from by rw [hW]; exact HB.out.alloc HB.out.size _)
    rw [← hW] at hnew
    rw [← hW, ← hVV]
    obtain ⟨b, hb⟩ : ∃ b, b = w1.heap.size := ⟨_, rfl⟩
    have hwb : w.heap.size ≤ b := by rw [hb]; exact HB.out.size
    have hsW : W.heap.size = b + 1 := by rw [hW, hb]; simp
    rw [← hb] at hnew
    rw [← hb]
    have HS0 := Lib.hid (show PwS b W P (.slice fa L.length fc) L false from hnew)
    clear hnew hW hVV hb
    go_wp2_with fail
    go_loopw [15] (fun i wr => ∃ (k : Nat) (r : Bool), k ≤ P ∧ i = .int .i64 k ∧ (∀ j, j < k → (fun n : Int => n != 0) (ctN P L (patX P P) j) = true) ∧ PwS b wr P (.slice fa L.length fc) L r ∧ Below w.heap.size w wr) (fun i _ => P - (intOf i).toNat)
    case atStart => exact ⟨0, false, by omega, rfl, fun j hj => by omega, HS0.out, HBW.out⟩
    case round =>
      obtain ⟨k, r, hk, rfl, hz, hs, hbel⟩ := hrel
      have HSR := Lib.hid hs
      have HZ := Lib.hid hz
      have HB := Lib.hid hbel
      clear hs hz hbel HS0
      by_cases hlt : k < P
      · have hltp : (k : Int) < (P : Int) := by omega
        have hk0 : (0 : Int) ≤ (k : Int) := by omega
        obtain ⟨cm, hcm⟩ : ∃ cm, cm = ctN P L (patX P P) k := ⟨_, rfl⟩
        have HCM := Lib.hid hcm
        have HCALL := Lib.hid (HPW.out b r k hlt wr hwb HSR.out HB.out)
        rw [← hcm] at HCALL
        clear hcm
        go_wp2_with fail
        refine HCALL.out.mono ?_
        rintro e w2 ⟨rfl, hs2, ho2⟩
        have HS2 := Lib.hid hs2
        have HB2 := Lib.hid (ho2.below HB.out hwb HB.out.size)
        clear hs2 ho2
        cases hq : (cm == 0)
        · have HQ := Lib.hid (show (fun n : Int => n != 0) (ctN P L (patX P P) k) = true from by rw [← HCM.out]; simpa using hq)
          go_wp2_with fail
          go_roundw
          case rel => exact ⟨k + 1, true, by omega, by go_num, fun j hj => by
            by_cases e : j = k
            · rw [e]; exact HQ.out
            · exact HZ.out j (by omega), HS2.out, HB2.out⟩
          case measure => simp [intOf]; omega
        · have HQ := Lib.hid (show (fun n : Int => n != 0) (ctN P L (patX P P) k) = false from by rw [← HCM.out]; simpa using hq)
          have HE := Lib.hid (cvK_no (p := (P : Int)) (L := L) (B := (fun n : Int => n != 0)) (C := P) hlt (by rw [show ((P : Nat) : Int).toNat = P from by omega]; exact HQ.out))
          go_wp2_with fail
          go_ret
          exact ⟨ret_bool HE.out.symm, HB2.out⟩
      · have hkp : k = P := by omega
        have HE := Lib.hid (cvK_yes (p := (P : Int)) (L := L) (B := (fun n : Int => n != 0)) (C := P) (fun j hj => by rw [show ((P : Nat) : Int).toNat = P from by omega]; exact HZ.out j (by omega)))
        have hnl : ¬ (k : Int) < (P : Int) := by omega
        clear hkp
        go_wp2_with fail
        go_ret
        exact ⟨ret_bool HE.out.symm, HB.out⟩
set_option maxRecDepth 100000 in
set_option maxHeartbeats 8000000 in
theorem iIsBalanced (p : Int) (f : Value) (L : List Trm) (w : World) (h : Trms w f L) :
    Calls Try.prog 39 #[.int .i64 p, f] w fun e w' => e = .returned (.bool (cvB p L (fun n : Int => n == p * p))) ∧ Below w.heap.size w w' := by
  obtain ⟨i0, hi, hz0, hz1, hz2⟩ := info_parts infoN
  obtain ⟨l0, fa, fc, rfl, l1⟩ := h
  have HT := Lib.hid (show Trms w (.slice fa L.length fc) L from ⟨l0, fa, fc, rfl, l1⟩)
  have HPV := Lib.hid (iPolyValid p (.slice fa L.length fc) L w HT.out)
  cases hV : (isP p && validB p L)
  · have HV := Lib.hid (show cvB p L (fun n : Int => n == p * p) = false by unfold cvB; rw [hV]; rfl)
    rw [hV] at HPV
    rw [HV.out]
    clear hV l1
    go_enter Try.func39, Try.ntmps39
    go_wp2_with fail
    refine HPV.out.mono ?_
    rintro e w2 ⟨rfl, hb⟩
    have HB := Lib.hid hb
    clear hb
    go_wp2_with fail
    go_ret
    exact ⟨rfl, HB.out⟩
  · have hpv : isP p = true ∧ validB p L = true := by simpa using hV
    have HV := Lib.hid (show cvB p L (fun n : Int => n == p * p) = (cvK p L p.toNat).all (fun n : Int => n == p * p) by unfold cvB; rw [hV]; rfl)
    rw [hV] at HPV
    rw [HV.out]
    have hpb := isP_bd hpv.1
    obtain ⟨P, hP⟩ : ∃ P : Nat, P = p.toNat := ⟨_, rfl⟩
    have hpP : p = (P : Int) := by omega
    subst hpP
    have hne : L = [] ∨ ∀ g off, fa = some ⟨g, off, none⟩ → g < w.heap.size := by
      rcases l1 with h | ⟨g2, o2, h1, h2, _⟩
      · exact .inl h
      · refine .inr (fun g off hg => ?_)
        rw [hg] at h1; cases h1; exact h2
    have HNE := Lib.hid hne
    have HPW := Lib.hid (fun (b : Nat) (r : Bool) (m : Nat) (hm : m < P) (w' : World) (hb : w.heap.size ≤ b) (hs : PwS b w' P (.slice fa L.length fc) L r) (ho : Below w.heap.size w w') =>
      iPw P hpv.1 b fa fc L r m (by omega) w' hpv.2 hs (HT.out.below ho) (HNE.out.imp id (fun h g off hg => by have := h g off hg; omega)))
    rw [show ((P : Nat) : Int).toNat = P from by omega]
    clear hV l1 hne hP HV
    have hpp2 : (P : Int) * (P : Int) ≤ 169 ∧ 0 ≤ (P : Int) * (P : Int) := by have := pp_bd hpv.1; omega
    have hwpp : IntKind.i64.wrap ((P : Int) * (P : Int)) = (P : Int) * (P : Int) := IntWalk.i64_in _ (by omega)
    go_enter Try.func39, Try.ntmps39
    go_wp2_with fail
    refine HPV.out.mono ?_
    rintro e w1 ⟨rfl, hb⟩
    have HB := Lib.hid hb
    clear hb
    go_upto_region 4 with fail
    have hnew := cpw_new w1 P fa L.length fc 99
    obtain ⟨W, hW⟩ : ∃ W, W = w1.alloc (Obj.cells #[.int .i64 P, .slice fa L.length fc, .int .u32 0, .int .i32 0, .int .u32 0, .int .i64 0, .int .i64 0, .int .i64 0, .int .i64 0, .int .i64 0, .int .i64 0, .int .i64 0, .int .i64 0, .int .i64 0, .int .i64 0, .int .i64 0, .int .i64 0, .int .i64 0] 99) := ⟨_, rfl⟩
    obtain ⟨V, hVV⟩ : ∃ V : Value, V = .agg #[.int .i64 P, .slice fa L.length fc, .int .u32 0, .int .i32 0, .int .u32 0, .int .i64 0, .int .i64 0, .int .i64 0, .int .i64 0, .int .i64 0, .int .i64 0, .int .i64 0, .int .i64 0, .int .i64 0, .int .i64 0, .int .i64 0, .int .i64 0, .int .i64 0] := ⟨_, rfl⟩
    have HBW := Lib.hid (show Below w.heap.size w W from by rw [hW]; exact HB.out.alloc HB.out.size _)
    rw [← hW] at hnew
    rw [← hW, ← hVV]
    obtain ⟨b, hb⟩ : ∃ b, b = w1.heap.size := ⟨_, rfl⟩
    have hwb : w.heap.size ≤ b := by rw [hb]; exact HB.out.size
    have hsW : W.heap.size = b + 1 := by rw [hW, hb]; simp
    rw [← hb] at hnew
    rw [← hb]
    have HS0 := Lib.hid (show PwS b W P (.slice fa L.length fc) L false from hnew)
    clear hnew hW hVV hb
    go_wp2_with fail
    go_loopw [15] (fun i wr => ∃ (k : Nat) (r : Bool), k ≤ P ∧ i = .int .i64 k ∧ (∀ j, j < k → (fun n : Int => n == (P : Int) * (P : Int)) (ctN P L (patX P P) j) = true) ∧ PwS b wr P (.slice fa L.length fc) L r ∧ Below w.heap.size w wr) (fun i _ => P - (intOf i).toNat)
    case atStart => exact ⟨0, false, by omega, rfl, fun j hj => by omega, HS0.out, HBW.out⟩
    case round =>
      obtain ⟨k, r, hk, rfl, hz, hs, hbel⟩ := hrel
      have HSR := Lib.hid hs
      have HZ := Lib.hid hz
      have HB := Lib.hid hbel
      clear hs hz hbel HS0
      by_cases hlt : k < P
      · have hltp : (k : Int) < (P : Int) := by omega
        have hk0 : (0 : Int) ≤ (k : Int) := by omega
        obtain ⟨cm, hcm⟩ : ∃ cm, cm = ctN P L (patX P P) k := ⟨_, rfl⟩
        have HCM := Lib.hid hcm
        have HCALL := Lib.hid (HPW.out b r k hlt wr hwb HSR.out HB.out)
        rw [← hcm] at HCALL
        clear hcm
        go_wp2_with fail
        refine HCALL.out.mono ?_
        rintro e w2 ⟨rfl, hs2, ho2⟩
        have HS2 := Lib.hid hs2
        have HB2 := Lib.hid (ho2.below HB.out hwb HB.out.size)
        clear hs2 ho2
        cases hq : (cm != (P : Int) * (P : Int))
        · have HQ := Lib.hid (show (fun n : Int => n == (P : Int) * (P : Int)) (ctN P L (patX P P) k) = true from by rw [← HCM.out]; simpa using hq)
          go_wp2_with fail
          go_roundw
          case rel => exact ⟨k + 1, true, by omega, by go_num, fun j hj => by
            by_cases e : j = k
            · rw [e]; exact HQ.out
            · exact HZ.out j (by omega), HS2.out, HB2.out⟩
          case measure => simp [intOf]; omega
        · have HQ := Lib.hid (show (fun n : Int => n == (P : Int) * (P : Int)) (ctN P L (patX P P) k) = false from by rw [← HCM.out]; simpa using hq)
          have HE := Lib.hid (cvK_no (p := (P : Int)) (L := L) (B := (fun n : Int => n == (P : Int) * (P : Int))) (C := P) hlt (by rw [show ((P : Nat) : Int).toNat = P from by omega]; exact HQ.out))
          go_wp2_with fail
          go_ret
          exact ⟨ret_bool HE.out.symm, HB2.out⟩
      · have hkp : k = P := by omega
        have HE := Lib.hid (cvK_yes (p := (P : Int)) (L := L) (B := (fun n : Int => n == (P : Int) * (P : Int))) (C := P) (fun j hj => by rw [show ((P : Nat) : Int).toNat = P from by omega]; exact HZ.out j (by omega)))
        have hnl : ¬ (k : Int) < (P : Int) := by omega
        clear hkp
        go_wp2_with fail
        go_ret
        exact ⟨ret_bool HE.out.symm, HB.out⟩
end Go.Proofs.Ytajabchbdhjdiaa
namespace Go.Proofs.Ytajabchbdhjdiaa
set_option linter.unusedVariables false
open Go.RowKit
/-- the first k points by their numbers -/
def ptK (p : Int) (k : Nat) : List (Int × Int × Int) := (List.range k).map (pnt p.toNat)
theorem ptK_next (p : Int) (k : Nat) : ptK p (k + 1) = ptK p k ++ [pnt p.toNat k] := by simp [ptK, List.range_succ]
theorem ptK_len (p : Int) (k : Nat) : (ptK p k).length = k := by simp [ptK]
theorem madeN (n i : Nat) (h : i < n) : (madeCells #[Value.int .i64 0] n).toList[i]? = some (.int .i64 0) := by
  simp [madeCells, h, Nat.mod_one]
/-- a row of counts -/
structure CtR (n P : Nat) (W : World) (C : Nat → Int) : Prop where
  lt : n < W.heap.size
  c : ∀ j, j < P → W.cell? ⟨n, j, none⟩ = some (.int .i64 (C j))
  f : ∀ j, j < P → W.frozen? ⟨n, j, none⟩ = false
theorem CtR.below {n P : Nat} {W W' : World} {C : Nat → Int} (h : CtR n P W C) (hb : Below W.heap.size W W') : CtR n P W' C :=
  ⟨Nat.lt_of_lt_of_le h.lt hb.size, fun j hj => (hb.cell (p := ⟨n, j, none⟩) h.lt).trans (h.c j hj), fun j hj => (hb.frozen (p := ⟨n, j, none⟩) h.lt).trans (h.f j hj)⟩
theorem CtR.set {n P : Nat} {W : World} {C : Nat → Int} (h : CtR n P W C) {m : Nat} (hm : m < P) (x : Int) : CtR n P (W.setCell ⟨n, m, none⟩ (.int .i64 x)) (fun j => if j = m then x else C j) := by
  refine ⟨by simpa using h.lt, fun j hj => ?_, fun j hj => by rw [World.frozen?_setCell]; exact h.f j hj⟩
  by_cases e : j = m
  · subst e
    rw [World.cell?_setCell_same _ _ _ (h.c j hj), if_pos rfl]
  · rw [World.cell?_setCell_other _ _ _ _ (fun q => e (by have := congrArg Addr.off q; simpa using this.symm)), if_neg e]
    exact h.c j hj
theorem CtR.ext {n P : Nat} {W : World} {C D : Nat → Int} (h : CtR n P W C) (e : ∀ j, j < P → C j = D j) : CtR n P W D := ⟨h.lt, fun j hj => by rw [← e j hj]; exact h.c j hj, h.f⟩
theorem CtR.own {n B : Nat} {p : Int} {P : Nat} {L : List Trm} {W : World} (h : CtR n P W (ctN p L (patX p.toNat p.toNat))) (hB : B ≤ n) (hP : P ≤ 13) : OwnInts W B (.slice (some ⟨n, 0, none⟩) P P) (cvK p L P) := by
  refine ⟨by rw [cvK_len]; omega, some ⟨n, 0, none⟩, P, by rw [cvK_len], .inr ⟨n, 0, rfl, hB, h.lt, fun j hj => ?_, fun j hj => ?_⟩⟩
  · rw [cvK_len] at hj
    rw [Nat.zero_add, h.c j hj]
    simp [cvK, List.getD_eq_getElem?_getD, hj]
  · rw [cvK_len] at hj
    rw [Nat.zero_add]
    exact h.f j hj
set_option maxRecDepth 100000 in
set_option maxHeartbeats 8000000 in
theorem sCountValues (p : Int) (f : Value) (L : List Trm) (w : World) (h : Trms w f L) :
    Calls Try.prog 34 #[.int .i64 p, f] w fun e w' => ∃ u, e = .returned u ∧ OwnInts w' w.heap.size u (cvV p L) ∧ Below w.heap.size w w' := by
  obtain ⟨i0, hi, hz0, hz1, hz2⟩ := info_parts infoN
  obtain ⟨l0, fa, fc, rfl, l1⟩ := h
  have HT := Lib.hid (show Trms w (.slice fa L.length fc) L from ⟨l0, fa, fc, rfl, l1⟩)
  have HPV := Lib.hid (sPolyValid p (.slice fa L.length fc) L w HT.out)
  cases hV : (isP p && validB p L)
  · have HV := Lib.hid (show cvV p L = [] by unfold cvV; rw [hV]; rfl)
    rw [hV] at HPV
    rw [HV.out]
    clear hV l1
    go_enter Try.func34, Try.ntmps34
    go_wp2_with fail
    refine HPV.out.mono ?_
    rintro e w2 ⟨rfl, hb⟩
    have HB := Lib.hid hb
    clear hb
    go_wp2_with fail
    go_ret
    exact ⟨_, rfl, ⟨by simp, _, _, rfl, .inl rfl⟩, Below.alloc HB.out HB.out.size _⟩
  · have hpv : isP p = true ∧ validB p L = true := by simpa using hV
    have HV := Lib.hid (show cvV p L = cvK p L p.toNat by unfold cvV; rw [hV]; rfl)
    rw [hV] at HPV
    rw [HV.out]
    have hpb := isP_bd hpv.1
    have hpp := pp_bd hpv.1
    have HC := Lib.hid (cube_nat hpv.1)
    have HPX := Lib.hid (patX_pnt p hpv.1)
    obtain ⟨P, hP⟩ : ∃ P : Nat, P = p.toNat := ⟨_, rfl⟩
    have hpP : p = (P : Int) := by omega
    obtain ⟨C, hC⟩ : ∃ C, C = p.toNat * p.toNat * p.toNat := ⟨_, rfl⟩
    rw [← hC] at HC HPX
    have hC2 : (C : Int) ≤ 2197 := by rw [HC.out]; omega
    obtain ⟨c3, hc3⟩ : ∃ c3, c3 = p * p * p := ⟨_, rfl⟩
    have HPS := Lib.hid (fun w => (by rw [hc3]; exact sPoints p hpv.1 w : Calls Try.prog 70 #[.int .i64 p] w fun e w' => e = .returned (.int .i64 c3) ∧ w = w'))
    have HC3 := Lib.hid (show c3 = (C : Int) from by rw [hc3, HC.out])
    have HPA := Lib.hid (fun (k : Nat) (hk : k < C) => pnt_at hpv.1 (k := k) (by rw [← HC.out]; omega))
    have HPP := Lib.hid hpv
    have HEND := Lib.hid (show ptK p C = patX p.toNat p.toNat from HPX.out.symm)
    have HPN := Lib.hid hP
    rw [← hP]
    clear hV l1 hpv hpp hC hc3 HV HC HPX hP
    have hc3 := HC3.out
    subst hc3
    subst hpP
    have hP13 : P ≤ 13 := by omega
    go_enter Try.func34, Try.ntmps34
    go_wp2_with fail
    refine HPV.out.mono ?_
    rintro e w1 ⟨rfl, hb⟩
    have HB := Lib.hid hb
    clear hb
    obtain ⟨n, hn⟩ : ∃ n, n = w1.heap.size := ⟨_, rfl⟩
    have hwn : w.heap.size ≤ n := by rw [hn]; exact HB.out.size
    go_wp2_with (at_make; refine wpList_make_full _ rfl _ _ 24 rfl 0 3 i0 (.int .i64 0) 1 Try.underlying24 hi hz0 hz1 .i64 .i64 (P : Int) (P : Int) P rfl rfl rfl rfl ?c2 ?c3 ?c4 ?_)
    case c2 => rw [hz2]; omega
    case c3 => unfold maxLen; omega
    case c4 => exact Nat.zero_le _
    rw [← hn]
    intro w2 hown hgr
    have hb2 : Below w.heap.size w w2 := HB.out.trans ((Below.refl w1.heap.size w1).grown hgr (Nat.le_refl _) (fun k hk => by cases hk) |>.mono HB.out.size)
    have hR0 : CtR n P w2 (fun _ => 0) := ⟨(hown.lt _ rfl).2, fun j hj => by rw [hown.cellAt j (by omega), madeN _ _ hj], fun j hj => hown.frozenAt j⟩
    have HR0 := Lib.hid hR0
    have HB2 := Lib.hid hb2
    clear hown hgr hR0 hb2 hn
    go_wp2_with fail
    refine (HPS.out _).mono ?_
    rintro e w3 ⟨rfl, rfl⟩
    go_wp2_with fail
    go_loopw [16] (fun i wr => ∃ k : Nat, k ≤ C ∧ i = .int .i64 k ∧ CtR n P wr (ctN P L (ptK P k)) ∧ Below w.heap.size w wr) (fun i _ => C - (intOf i).toNat)
    case atStart => exact ⟨0, by omega, rfl, HR0.out.ext (fun j hj => rfl), HB2.out⟩
    case round =>
      clear HR0 HB2
      obtain ⟨k, hk, rfl, hr, hb⟩ := hrel
      have HR := Lib.hid hr
      have HB3 := Lib.hid hb
      clear hr hb
      by_cases hlt : k < C
      · have hltp : (k : Int) < (C : Int) := by omega
        have hk0 : (0 : Int) ≤ (k : Int) := by omega
        obtain ⟨q, x, y, z, hq, he, hpt⟩ := HPA.out k hlt
        have hbd := evK_bd HPP.out.1 x y z L L.length
        obtain ⟨m, hm⟩ := Int.eq_ofNat_of_zero_le hbd.1
        have hmP : m < P := by omega
        have HN := Lib.hid (show ∀ j, ctN P L (ptK P (k + 1)) j = if j = m then ctN P L (ptK P k) m + 1 else ctN P L (ptK P k) j from fun j => by
          rw [ptK_next, ctN_snoc]
          have hev : evP P L (pnt (P : Int).toNat k) = (m : Int) := by
            rw [hpt]
            unfold evP evV
            rw [HPP.out.1, HPP.out.2, he]
            exact hm
          rw [hev]
          by_cases e : j = m
          · subst e; rw [if_pos rfl, if_pos rfl]
          · rw [if_neg (by omega), if_neg e])
        have HPT := Lib.hid (fun w => sPoint (P : Int) k q x y z HPP.out.1 hq w)
        have HAT := Lib.hid (fun w' (hb : Below w.heap.size w w') => (by rw [← hm]; exact sAt (P : Int) x y z (.slice fa L.length fc) L w' HPP.out.1 HPP.out.2 he (HT.out.below hb) : Calls Try.prog 82 #[.int .i64 P, .slice fa L.length fc, .agg #[.int .i64 x, .int .i64 y, .int .i64 z]] w' fun e w'' => e = .returned (.int .i64 (m : Int)) ∧ Below w'.heap.size w' w''))
        have hcb := ctN_bd (P : Int) L (ptK P k) m
        rw [ptK_len] at hcb
        obtain ⟨cm, hcm⟩ : ∃ cm, cm = ctN P L (ptK P k) m := ⟨_, rfl⟩
        have HCM := Lib.hid hcm
        rw [← hcm] at HN hcb
        have hwr : IntKind.i64.wrap (cm + 1) = cm + 1 := IntWalk.i64_in _ (by omega)
        have hm0 : (0 : Int) ≤ (m : Int) := by omega
        have hm1 : (m : Int) < (P : Int) := by omega
        clear hq he hpt hm hbd hcm hcb
        go_wp2_with fail
        refine (HPT.out _).mono ?_
        rintro e w4 ⟨rfl, hb4⟩
        have HB4 := Lib.hid (show Below wr.heap.size wr w4 from hb4)
        clear hb4
        go_wp2_with fail
        refine (HAT.out _ (HB3.out.trans (HB4.out.mono HB3.out.size))).mono ?_
        rintro e w5 ⟨rfl, hb5⟩
        have HB5 := Lib.hid (show Below wr.heap.size wr w5 from HB4.out.trans (hb5.mono HB4.out.size))
        have HR5 := Lib.hid (HR.out.below HB5.out)
        have hcc : w5.cell? ⟨n, m, none⟩ = some (.int .i64 cm) := by rw [HCM.out]; exact HR5.out.c m hmP
        have hff := HR5.out.f m hmP
        have HFIN := Lib.hid (show CtR n P (w5.setCell ⟨n, m, none⟩ (.int .i64 (cm + 1))) (ctN P L (ptK P (k + 1))) ∧ Below w.heap.size w (w5.setCell ⟨n, m, none⟩ (.int .i64 (cm + 1))) from
          ⟨(HR5.out.set hmP (cm + 1)).ext (fun j hj => (HN.out j).symm), (HB3.out.trans (HB5.out.mono HB3.out.size)).setCell (by exact hwn) _⟩)
        clear hb5
        go_wp2_with fail
        go_roundw
        case rel => exact ⟨k + 1, by omega, by go_num, HFIN.out⟩
        case measure => simp [intOf]; omega
      · have hkp : k = C := by omega
        subst hkp
        have hnl : ¬ (k : Int) < (k : Int) := by omega
        go_wp2_with fail
        go_ret
        have hR := HR.out
        rw [HEND.out] at hR
        exact ⟨_, rfl, hR.own hwn hP13, HB3.out⟩
theorem cvB_eq (p : Int) (L : List Trm) (B : Int → Bool) : cvB p L B = ((isP p && validB p L) && (cvV p L).all B) := by
  unfold cvB cvV
  cases h : (isP p && validB p L) <;> simp
theorem all_getD {R : List Int} {B : Int → Bool} {j : Nat} (hj : j < R.length) (h : B (R.getD j 0) = false) : R.all B = false := by
  rw [List.getD_eq_getElem?_getD, List.getElem?_eq_getElem hj] at h
  exact List.all_eq_false.2 ⟨R[j], List.getElem_mem hj, by simpa using h⟩
theorem all_getD' {R : List Int} {B : Int → Bool} (h : ∀ j, j < R.length → B (R.getD j 0) = true) : R.all B = true :=
  List.all_eq_true.2 fun x hx => by
    obtain ⟨j, hj, rfl⟩ := List.getElem_of_mem hx
    have := h j hj
    rwa [List.getD_eq_getElem?_getD, List.getElem?_eq_getElem hj] at this
theorem cvV_len (p : Int) (L : List Trm) : (cvV p L).length ≤ 281474976710656 := by
  unfold cvV
  split
  · rename_i h
    have hp := isP_bd (show isP p = true by simp only [Bool.and_eq_true] at h; exact h.1)
    rw [cvK_len]; omega
  · simp
theorem iCountValuesO (p : Int) (f : Value) (L : List Trm) (w : World) (h : Trms w f L) :
    Calls Try.prog 35 #[.int .i64 p, f] w fun e w' => ∃ u, e = .returned u ∧ OwnInts w' w.heap.size u (cvV p L) ∧ Below w.heap.size w w' :=
  (iCountValues p f L w h).mono fun e w' ⟨u, h1, h2, h3⟩ => ⟨u, h1, h2.own (cvV_len p L), h3⟩
set_option maxRecDepth 100000 in
set_option maxHeartbeats 4000000 in
theorem sIsOnto (p : Int) (f : Value) (L : List Trm) (w : World) (h : Trms w f L) :
    Calls Try.prog 32 #[.int .i64 p, f] w fun e w' => e = .returned (.bool (cvB p L (fun n : Int => n != 0))) ∧ Below w.heap.size w w' := by
  rw [cvB_eq]
  have HCV := Lib.hid (sCountValues p f L w h)
  have HPV := Lib.hid (fun w' (hb : Below w.heap.size w w') => sPolyValid p f L w' (h.below hb))
  have hl := cvV_len p L
  have HSM := Lib.hid (show cvV p L ≠ [] → 2 ≤ p ∧ p ≤ 13 from fun hne => by
    unfold cvV at hne
    split at hne
    · rename_i h2
      exact isP_bd (by simp only [Bool.and_eq_true] at h2; exact h2.1)
    · exact absurd rfl hne)
  obtain ⟨R, hR⟩ : ∃ R, R = cvV p L := ⟨_, rfl⟩
  rw [← hR] at HCV hl HSM ⊢
  obtain ⟨ok, hok⟩ : ∃ ok, ok = (isP p && validB p L) := ⟨_, rfl⟩
  rw [← hok] at HPV ⊢
  obtain ⟨_, fa, fc, rfl, _⟩ := h
  clear hR hok
  go_enter Try.func32, Try.ntmps32
  go_wp2_with fail
  refine HCV.out.mono ?_
  rintro e w1 ⟨u, rfl, hu, hb⟩
  obtain ⟨hul, ua, uc, rfl, hu2⟩ := hu
  have HB := Lib.hid hb
  have HU := Lib.hid (show ∀ j, j < R.length → ∃ g off, ua = some ⟨g, off, none⟩ ∧ w1.cell? ⟨g, off + j, none⟩ = some (.int .i64 (R.getD j 0)) from fun j hj => by
    rcases hu2 with h0 | ⟨g, off, h1, h2, h3, h4, h5⟩
    · rw [h0] at hj; simp at hj
    · exact ⟨g, off, h1, h4 j hj⟩)
  clear hu2 hb
  go_wp2_with fail
  go_loop [11] (fun i => ∃ k : Nat, k ≤ R.length ∧ i = .int .i64 k ∧ (∀ j, j < k → (fun n : Int => n != 0) (R.getD j 0) = true)) (fun i => R.length - (intOf i).toNat)
  case atStart => exact ⟨0, by omega, rfl, fun j hj => by omega⟩
  case round =>
    obtain ⟨k, hk, rfl, hz⟩ := hrel
    have HZ := Lib.hid hz
    clear hz
    by_cases hlt : k < R.length
    · have hltp : (k : Int) < (R.length : Int) := by omega
      have hk0 : (0 : Int) ≤ (k : Int) := by omega
      obtain ⟨g, off, rfl, hc⟩ := HU.out k hlt
      obtain ⟨x, hx⟩ : ∃ x, x = R.getD k 0 := ⟨_, rfl⟩
      rw [← hx] at hc
      have HX := Lib.hid hx
      clear hx
      cases hq : (x == 0)
      · have HQ := Lib.hid (show (fun n : Int => n != 0) (R.getD k 0) = true from by rw [← HX.out]; simpa using hq)
        go_wp2_with fail
        go_round
        case rel => exact ⟨k + 1, by omega, by go_num, fun j hj => by
          by_cases e : j = k
          · rw [e]; exact HQ.out
          · exact HZ.out j (by omega)⟩
        case measure => simp [intOf]; omega
      · have HQ := Lib.hid (show (fun n : Int => n != 0) (R.getD k 0) = false from by rw [← HX.out]; simpa using hq)
        have HE := Lib.hid (show (ok && R.all (fun n : Int => n != 0)) = false from by rw [all_getD hlt HQ.out, Bool.and_false])
        go_wp2_with fail
        go_ret
        exact ⟨ret_bool HE.out.symm, HB.out⟩
    · have HE := Lib.hid (show (ok && R.all (fun n : Int => n != 0)) = ok from by rw [all_getD' (fun j hj => HZ.out j (by omega)), Bool.and_true])
      have hnl : ¬ (k : Int) < (R.length : Int) := by omega
      go_wp2_with fail
      refine (HPV.out _ HB.out).mono ?_
      rintro e w2 ⟨rfl, hb2⟩
      have HB2 := Lib.hid (HB.out.trans (hb2.mono HB.out.size))
      clear hb2
      go_wp2_with fail
      go_ret
      exact ⟨ret_bool HE.out.symm, HB2.out⟩
set_option maxRecDepth 100000 in
set_option maxHeartbeats 4000000 in
theorem sIsBalanced (p : Int) (f : Value) (L : List Trm) (w : World) (h : Trms w f L) :
    Calls Try.prog 38 #[.int .i64 p, f] w fun e w' => e = .returned (.bool (cvB p L (fun n : Int => n == p * p))) ∧ Below w.heap.size w w' := by
  rw [cvB_eq]
  have HCV := Lib.hid (sCountValues p f L w h)
  have HPV := Lib.hid (fun w' (hb : Below w.heap.size w w') => sPolyValid p f L w' (h.below hb))
  have hl := cvV_len p L
  have HSM := Lib.hid (show cvV p L ≠ [] → 2 ≤ p ∧ p ≤ 13 from fun hne => by
    unfold cvV at hne
    split at hne
    · rename_i h2
      exact isP_bd (by simp only [Bool.and_eq_true] at h2; exact h2.1)
    · exact absurd rfl hne)
  obtain ⟨R, hR⟩ : ∃ R, R = cvV p L := ⟨_, rfl⟩
  rw [← hR] at HCV hl HSM ⊢
  obtain ⟨ok, hok⟩ : ∃ ok, ok = (isP p && validB p L) := ⟨_, rfl⟩
  rw [← hok] at HPV ⊢
  obtain ⟨_, fa, fc, rfl, _⟩ := h
  clear hR hok
  go_enter Try.func38, Try.ntmps38
  go_wp2_with fail
  refine HCV.out.mono ?_
  rintro e w1 ⟨u, rfl, hu, hb⟩
  obtain ⟨hul, ua, uc, rfl, hu2⟩ := hu
  have HB := Lib.hid hb
  have HU := Lib.hid (show ∀ j, j < R.length → ∃ g off, ua = some ⟨g, off, none⟩ ∧ w1.cell? ⟨g, off + j, none⟩ = some (.int .i64 (R.getD j 0)) from fun j hj => by
    rcases hu2 with h0 | ⟨g, off, h1, h2, h3, h4, h5⟩
    · rw [h0] at hj; simp at hj
    · exact ⟨g, off, h1, h4 j hj⟩)
  clear hu2 hb
  go_wp2_with fail
  go_loop [11] (fun i => ∃ k : Nat, k ≤ R.length ∧ i = .int .i64 k ∧ (∀ j, j < k → (fun n : Int => n == p * p) (R.getD j 0) = true)) (fun i => R.length - (intOf i).toNat)
  case atStart => exact ⟨0, by omega, rfl, fun j hj => by omega⟩
  case round =>
    obtain ⟨k, hk, rfl, hz⟩ := hrel
    have HZ := Lib.hid hz
    clear hz
    by_cases hlt : k < R.length
    · have hltp : (k : Int) < (R.length : Int) := by omega
      have hk0 : (0 : Int) ≤ (k : Int) := by omega
      obtain ⟨g, off, rfl, hc⟩ := HU.out k hlt
      have hps := HSM.out (by intro e; rw [e] at hlt; simp at hlt)
      have hpp2 : p * p ≤ 169 ∧ 0 ≤ p * p := by have h1 := Int.mul_le_mul (show p ≤ 13 by omega) (show p ≤ 13 by omega) (show 0 ≤ p by omega) (show (0 : Int) ≤ 13 by omega); have h2 := Int.mul_nonneg (show 0 ≤ p by omega) (show 0 ≤ p by omega); omega
      have hwpp : IntKind.i64.wrap (p * p) = p * p := IntWalk.i64_in _ (by omega)
      obtain ⟨x, hx⟩ : ∃ x, x = R.getD k 0 := ⟨_, rfl⟩
      rw [← hx] at hc
      have HX := Lib.hid hx
      clear hx
      cases hq : (x != p * p)
      · have HQ := Lib.hid (show (fun n : Int => n == p * p) (R.getD k 0) = true from by rw [← HX.out]; simpa using hq)
        go_wp2_with fail
        go_round
        case rel => exact ⟨k + 1, by omega, by go_num, fun j hj => by
          by_cases e : j = k
          · rw [e]; exact HQ.out
          · exact HZ.out j (by omega)⟩
        case measure => simp [intOf]; omega
      · have HQ := Lib.hid (show (fun n : Int => n == p * p) (R.getD k 0) = false from by rw [← HX.out]; simpa using hq)
        have HE := Lib.hid (show (ok && R.all (fun n : Int => n == p * p)) = false from by rw [all_getD hlt HQ.out, Bool.and_false])
        go_wp2_with fail
        go_ret
        exact ⟨ret_bool HE.out.symm, HB.out⟩
    · have HE := Lib.hid (show (ok && R.all (fun n : Int => n == p * p)) = ok from by rw [all_getD' (fun j hj => HZ.out j (by omega)), Bool.and_true])
      have hnl : ¬ (k : Int) < (R.length : Int) := by omega
      go_wp2_with fail
      refine (HPV.out _ HB.out).mono ?_
      rintro e w2 ⟨rfl, hb2⟩
      have HB2 := Lib.hid (HB.out.trans (hb2.mono HB.out.size))
      clear hb2
      go_wp2_with fail
      go_ret
      exact ⟨ret_bool HE.out.symm, HB2.out⟩
end Go.Proofs.Ytajabchbdhjdiaa
namespace Go.Proofs.Ytajabchbdhjdiaa
set_option linter.unusedVariables false
open Go.RowKit
set_option maxRecDepth 100000 in
set_option maxHeartbeats 8000000 in
theorem xCountValues_in (a0 : Int) (a1 : Option Addr) (L1 : List Trm) (c1 : Nat) (r0 : List Int) (w : World) (h1 : Trms w (.slice a1 L1.length c1) L1) (hl : L1.length ≤ 1048576)
    (hS : ∀ f1, ∀ w, Trms w f1 L1 → Calls Try.prog 34 #[.int .i64 a0, f1] w fun e w' => ∃ u0, e = .returned (u0) ∧ OwnInts w' w.heap.size u0 r0 ∧ Below w.heap.size w w')
    (hI : ∀ f1, ∀ w, Trms w f1 L1 → Calls Try.prog 35 #[.int .i64 a0, f1] w fun e w' => ∃ u0, e = .returned (u0) ∧ OwnInts w' w.heap.size u0 r0 ∧ Below w.heap.size w w') :
    Calls Try.prog 7 #[.int .i64 a0, .slice a1 L1.length c1] w fun e w' => e = .returned (.bool true) ∧ Below w.heap.size w w' := by
  have m1 : (1048576 : Int) - L1.length ≥ 0 := by omega
  have HS1 := Lib.hid (szP_at a1 L1.length c1 (1048576) w (by omega) (by omega) (by omega))
  have Q1 := Lib.hid h1
  have n1 : (L1.length : Int) ≤ 1048576 := by omega
  clear h1
  have HSP := Lib.hid hS
  have HIM := Lib.hid hI
  clear hS hI
  go_enter Try.func7, Try.ntmps7
  go_wp2_with fail
  refine HS1.out.mono ?_
  rintro e w' ⟨rfl, rfl⟩
  have B := Lib.hid (Below.refl w.heap.size w)
  go_wp2_with fail
  refine (toP _ L1 _ (Q1.out.below B.out)).mono ?_
  rintro e W1 ⟨s1, rfl, ho, hb⟩
  have Z1 := Lib.hid hb.size
  replace B := Lib.hid (B.out.trans (hb.mono B.out.size))
  clear hb
  have S1 := Lib.hid ho.trms
  clear ho
  go_wp2_with fail
  refine (HSP.out _ _ S1.out).mono ?_
  rintro e W2 ⟨v0, rfl, hv0, hb⟩
  have Z2 := Lib.hid hb.size
  replace B := Lib.hid (B.out.trans (hb.mono B.out.size))
  replace S1 := Lib.hid (S1.out.below hb)
  clear hb
  clear S1
  have V0 := Lib.hid hv0.ints
  have z0 : (r0.length : Int) ≤ 281474976710656 := by have := hv0.1; omega
  clear hv0
  have X := Lib.hid (Below.refl W2.heap.size W2)
  go_wp2_with fail
  refine (toP _ L1 _ (Q1.out.below B.out)).mono ?_
  rintro e W3 ⟨x1, rfl, ho, hb⟩
  have Z3 := Lib.hid hb.size
  replace B := Lib.hid (B.out.trans (hb.mono B.out.size))
  replace X := Lib.hid (X.out.trans (hb.mono X.out.size))
  clear hb
  have O1 := Lib.hid ho
  clear ho
  have Y1 := Lib.hid (Below.refl W3.heap.size W3)
  go_wp2_with fail
  refine (HIM.out _ _ (O1.out.trms.below Y1.out)).mono ?_
  rintro e W4 ⟨g0, rfl, hg0, hb⟩
  have P1 := Lib.hid (show w.heap.size ≤ W2.heap.size ∧ W2.heap.size ≤ W2.heap.size ∧ W3.heap.size ≤ W3.heap.size by have := B.out.size; have := X.out.size; have := Z1.out; have := Z2.out; have := Z3.out; first | omega | (refine ⟨?_, ?_, ?_⟩ <;> omega))
  have PG := Lib.hid (show w.heap.size ≤ W3.heap.size ∧ W2.heap.size ≤ W3.heap.size by have := Z1.out; have := Z2.out; have := Z3.out; first | omega | (refine ⟨?_, ?_⟩ <;> omega))
  replace B := Lib.hid (B.out.trans (hb.mono B.out.size))
  replace X := Lib.hid (X.out.trans (hb.mono X.out.size))
  replace Y1 := Lib.hid (Y1.out.trans (hb.mono Y1.out.size))
  clear hb
  have G0 := Lib.hid hg0
  clear hg0
  go_wp2_with fail
  refine (eqIS g0 v0 r0 _ G0.out.ints (V0.out.below X.out)).mono ?_
  rintro e W5 ⟨rfl, hb⟩
  replace B := Lib.hid (B.out.trans (hb.mono B.out.size))
  replace X := Lib.hid (X.out.trans (hb.mono X.out.size))
  replace Y1 := Lib.hid (Y1.out.trans (hb.mono Y1.out.size))
  replace G0 := Lib.hid (G0.out.below hb)
  clear hb
  go_wp2_with fail
  refine (toP _ L1 _ (Q1.out.below B.out)).mono ?_
  rintro e W6 ⟨y1, rfl, ho, hb⟩
  replace B := Lib.hid (B.out.trans (hb.mono B.out.size))
  replace X := Lib.hid (X.out.trans (hb.mono X.out.size))
  replace Y1 := Lib.hid (Y1.out.trans (hb.mono Y1.out.size))
  replace G0 := Lib.hid (G0.out.below hb)
  clear hb
  have S1 := Lib.hid ho.trms
  clear ho
  go_wp2_with fail
  refine (eqP x1 y1 L1 _ (O1.out.trms.below Y1.out) S1.out).mono ?_
  rintro e W7 ⟨rfl, hb⟩
  clear S1
  replace B := Lib.hid (B.out.trans (hb.mono B.out.size))
  replace X := Lib.hid (X.out.trans (hb.mono X.out.size))
  replace Y1 := Lib.hid (Y1.out.trans (hb.mono Y1.out.size))
  replace G0 := Lib.hid (G0.out.below hb)
  clear hb
  go_wp2_with fail
  refine (markTsame x1 L1 _ (1) W3 _ O1.out (same_of Y1.out) (by omega) (by omega)).mono ?_
  rintro e W8 ⟨rfl, hb⟩
  replace B := Lib.hid (B.out.trans (hb.low.mono P1.out.1))
  replace X := Lib.hid (X.out.trans (hb.low.mono P1.out.2.1))
  replace G0 := Lib.hid (G0.out.betw' P1.out.2.2 hb)
  clear hb
  go_wp2_with fail
  refine (eqIS g0 v0 r0 _ G0.out.ints (V0.out.below X.out)).mono ?_
  rintro e W9 ⟨rfl, hb⟩
  replace B := Lib.hid (B.out.trans (hb.mono B.out.size))
  replace X := Lib.hid (X.out.trans (hb.mono X.out.size))
  replace G0 := Lib.hid (G0.out.below hb)
  clear hb
  go_wp2_with fail
  refine (markIown g0 r0 _ (1) _ G0.out (by omega) (by omega)).mono ?_
  rintro e W10 ⟨rfl, hh, hb, hs⟩
  replace B := Lib.hid (B.out.trans (hb.mono PG.out.1))
  replace X := Lib.hid (X.out.trans (hb.mono PG.out.2))
  have D0 := Lib.hid hh
  clear hh hb hs
  go_wp2_with fail
  refine (heldIown g0 r0.length _ 1 _ D0.out (by omega) (by omega)).mono ?_
  rintro e W11 ⟨rfl, rfl⟩
  go_wp2_with fail
  refine (toP _ L1 _ (Q1.out.below B.out)).mono ?_
  rintro e W12 ⟨t1, rfl, ho, hb⟩
  replace B := Lib.hid (B.out.trans (hb.mono B.out.size))
  replace X := Lib.hid (X.out.trans (hb.mono X.out.size))
  replace D0 := Lib.hid (D0.out.below hb)
  clear hb
  have S1 := Lib.hid ho.trms
  clear ho
  go_wp2_with fail
  refine (HIM.out _ _ S1.out).mono ?_
  rintro e W13 ⟨t0, rfl, ht0, hb⟩
  replace B := Lib.hid (B.out.trans (hb.mono B.out.size))
  replace X := Lib.hid (X.out.trans (hb.mono X.out.size))
  replace D0 := Lib.hid (D0.out.below hb)
  replace S1 := Lib.hid (S1.out.below hb)
  clear hb
  clear S1
  have T0 := Lib.hid ht0.ints
  clear ht0
  go_wp2_with fail
  refine (eqIS t0 v0 r0 _ T0.out (V0.out.below X.out)).mono ?_
  rintro e W14 ⟨rfl, hb⟩
  replace B := Lib.hid (B.out.trans (hb.mono B.out.size))
  replace X := Lib.hid (X.out.trans (hb.mono X.out.size))
  replace D0 := Lib.hid (D0.out.below hb)
  replace T0 := Lib.hid (T0.out.below hb)
  clear hb
  go_wp2_with fail
  refine (heldIown g0 r0.length _ 1 _ D0.out (by omega) (by omega)).mono ?_
  rintro e W15 ⟨rfl, rfl⟩
  go_wp2_with fail
  go_ret
  exact ⟨rfl, B.out⟩
set_option maxHeartbeats 1000000 in
theorem xCountValues_long0 (a0 : Int) (a1 : Option Addr) (n1 c1 : Nat) (w : World) (h1 : 1048576 < n1) (h2 : n1 ≤ 9223372036854775807) :
    Calls Try.prog 7 #[.int .i64 a0, .slice a1 n1 c1] w fun e w' => e = .returned (.bool true) ∧ Below w.heap.size w w' := by
  have HS1 := Lib.hid (szP_over a1 n1 c1 (1048576) w (by omega) (by omega) (by omega) (by omega))
  clear h1 h2
  go_enter Try.func7, Try.ntmps7
  go_wp2_with fail
  refine HS1.out.mono ?_
  rintro e w' ⟨rfl, rfl⟩
  go_wp2_with fail
  go_ret
  exact ⟨rfl, Below.refl _ _⟩

theorem xCountValues (a0 : Int) (a1 : Option Addr) (len1 c1 : Nat) (L1 : List Trm) (w : World) (h1 : RowT w a1 len1 L1) :
    Calls Try.prog 7 #[.int .i64 a0, .slice a1 len1 c1] w fun e w' => e = .returned (.bool true) ∧ Below w.heap.size w w' := by
  by_cases q1 : len1 ≤ 1048576
  · skip
    have e1 := h1.1
    subst e1
    exact xCountValues_in a0 a1 L1 c1 ((cvV a0 L1)) w (h1.trms (by omega)) (by omega) (fun f1 w k1 => sCountValues a0 f1 L1 w k1) (fun f1 w k1 => iCountValuesO a0 f1 L1 w k1)
  · exact xCountValues_long0 a0 a1 len1 c1 w (by omega) h1.2.1
end Go.Proofs.Ytajabchbdhjdiaa
namespace Go.Proofs.Ytajabchbdhjdiaa
set_option linter.unusedVariables false
open Go.RowKit
set_option maxRecDepth 100000 in
set_option maxHeartbeats 8000000 in
theorem xIsOnto_in (a0 : Int) (a1 : Option Addr) (L1 : List Trm) (c1 : Nat) (r0 : Bool) (w : World) (h1 : Trms w (.slice a1 L1.length c1) L1) (hl : L1.length ≤ 1048576)
    (hS : ∀ f1, ∀ w, Trms w f1 L1 → Calls Try.prog 32 #[.int .i64 a0, f1] w fun e w' => e = .returned (.bool r0) ∧ Below w.heap.size w w')
    (hI : ∀ f1, ∀ w, Trms w f1 L1 → Calls Try.prog 33 #[.int .i64 a0, f1] w fun e w' => e = .returned (.bool r0) ∧ Below w.heap.size w w') :
    Calls Try.prog 6 #[.int .i64 a0, .slice a1 L1.length c1] w fun e w' => e = .returned (.bool true) ∧ Below w.heap.size w w' := by
  have m1 : (1048576 : Int) - L1.length ≥ 0 := by omega
  have HS1 := Lib.hid (szP_at a1 L1.length c1 (1048576) w (by omega) (by omega) (by omega))
  have Q1 := Lib.hid h1
  have n1 : (L1.length : Int) ≤ 1048576 := by omega
  clear h1
  have HSP := Lib.hid hS
  have HIM := Lib.hid hI
  clear hS hI
  have bb0 := bne_self2 r0
  go_enter Try.func6, Try.ntmps6
  go_wp2_with fail
  refine HS1.out.mono ?_
  rintro e w' ⟨rfl, rfl⟩
  have B := Lib.hid (Below.refl w.heap.size w)
  go_wp2_with fail
  refine (toP _ L1 _ (Q1.out.below B.out)).mono ?_
  rintro e W1 ⟨s1, rfl, ho, hb⟩
  replace B := Lib.hid (B.out.trans (hb.mono B.out.size))
  clear hb
  have S1 := Lib.hid ho.trms
  clear ho
  go_wp2_with fail
  refine (HSP.out _ _ S1.out).mono ?_
  rintro e W2 ⟨rfl, hb⟩
  replace B := Lib.hid (B.out.trans (hb.mono B.out.size))
  replace S1 := Lib.hid (S1.out.below hb)
  clear hb
  clear S1
  go_wp2_with fail
  refine (toP _ L1 _ (Q1.out.below B.out)).mono ?_
  rintro e W3 ⟨x1, rfl, ho, hb⟩
  replace B := Lib.hid (B.out.trans (hb.mono B.out.size))
  clear hb
  have O1 := Lib.hid ho
  clear ho
  have Y1 := Lib.hid (Below.refl W3.heap.size W3)
  go_wp2_with fail
  refine (HIM.out _ _ (O1.out.trms.below Y1.out)).mono ?_
  rintro e W4 ⟨rfl, hb⟩
  replace B := Lib.hid (B.out.trans (hb.mono B.out.size))
  replace Y1 := Lib.hid (Y1.out.trans (hb.mono Y1.out.size))
  clear hb
  go_wp2_with fail
  refine (toP _ L1 _ (Q1.out.below B.out)).mono ?_
  rintro e W5 ⟨y1, rfl, ho, hb⟩
  replace B := Lib.hid (B.out.trans (hb.mono B.out.size))
  replace Y1 := Lib.hid (Y1.out.trans (hb.mono Y1.out.size))
  clear hb
  have S1 := Lib.hid ho.trms
  clear ho
  go_wp2_with fail
  refine (eqP x1 y1 L1 _ (O1.out.trms.below Y1.out) S1.out).mono ?_
  rintro e W6 ⟨rfl, hb⟩
  clear S1
  replace B := Lib.hid (B.out.trans (hb.mono B.out.size))
  replace Y1 := Lib.hid (Y1.out.trans (hb.mono Y1.out.size))
  clear hb
  go_wp2_with fail
  go_ret
  exact ⟨rfl, B.out⟩
set_option maxHeartbeats 1000000 in
theorem xIsOnto_long0 (a0 : Int) (a1 : Option Addr) (n1 c1 : Nat) (w : World) (h1 : 1048576 < n1) (h2 : n1 ≤ 9223372036854775807) :
    Calls Try.prog 6 #[.int .i64 a0, .slice a1 n1 c1] w fun e w' => e = .returned (.bool true) ∧ Below w.heap.size w w' := by
  have HS1 := Lib.hid (szP_over a1 n1 c1 (1048576) w (by omega) (by omega) (by omega) (by omega))
  clear h1 h2
  go_enter Try.func6, Try.ntmps6
  go_wp2_with fail
  refine HS1.out.mono ?_
  rintro e w' ⟨rfl, rfl⟩
  go_wp2_with fail
  go_ret
  exact ⟨rfl, Below.refl _ _⟩

theorem xIsOnto (a0 : Int) (a1 : Option Addr) (len1 c1 : Nat) (L1 : List Trm) (w : World) (h1 : RowT w a1 len1 L1) :
    Calls Try.prog 6 #[.int .i64 a0, .slice a1 len1 c1] w fun e w' => e = .returned (.bool true) ∧ Below w.heap.size w w' := by
  by_cases q1 : len1 ≤ 1048576
  · skip
    have e1 := h1.1
    subst e1
    exact xIsOnto_in a0 a1 L1 c1 ((cvB a0 L1 (fun n : Int => n != 0))) w (h1.trms (by omega)) (by omega) (fun f1 w k1 => sIsOnto a0 f1 L1 w k1) (fun f1 w k1 => iIsOnto a0 f1 L1 w k1)
  · exact xIsOnto_long0 a0 a1 len1 c1 w (by omega) h1.2.1
end Go.Proofs.Ytajabchbdhjdiaa
namespace Go.Proofs.Ytajabchbdhjdiaa
set_option linter.unusedVariables false
open Go.RowKit
set_option maxRecDepth 100000 in
set_option maxHeartbeats 8000000 in
theorem xIsBalanced_in (a0 : Int) (a1 : Option Addr) (L1 : List Trm) (c1 : Nat) (r0 : Bool) (w : World) (h1 : Trms w (.slice a1 L1.length c1) L1) (hl : L1.length ≤ 1048576)
    (hS : ∀ f1, ∀ w, Trms w f1 L1 → Calls Try.prog 38 #[.int .i64 a0, f1] w fun e w' => e = .returned (.bool r0) ∧ Below w.heap.size w w')
    (hI : ∀ f1, ∀ w, Trms w f1 L1 → Calls Try.prog 39 #[.int .i64 a0, f1] w fun e w' => e = .returned (.bool r0) ∧ Below w.heap.size w w') :
    Calls Try.prog 9 #[.int .i64 a0, .slice a1 L1.length c1] w fun e w' => e = .returned (.bool true) ∧ Below w.heap.size w w' := by
  have m1 : (1048576 : Int) - L1.length ≥ 0 := by omega
  have HS1 := Lib.hid (szP_at a1 L1.length c1 (1048576) w (by omega) (by omega) (by omega))
  have Q1 := Lib.hid h1
  have n1 : (L1.length : Int) ≤ 1048576 := by omega
  clear h1
  have HSP := Lib.hid hS
  have HIM := Lib.hid hI
  clear hS hI
  have bb0 := bne_self2 r0
  go_enter Try.func9, Try.ntmps9
  go_wp2_with fail
  refine HS1.out.mono ?_
  rintro e w' ⟨rfl, rfl⟩
  have B := Lib.hid (Below.refl w.heap.size w)
  go_wp2_with fail
  refine (toP _ L1 _ (Q1.out.below B.out)).mono ?_
  rintro e W1 ⟨s1, rfl, ho, hb⟩
  replace B := Lib.hid (B.out.trans (hb.mono B.out.size))
  clear hb
  have S1 := Lib.hid ho.trms
  clear ho
  go_wp2_with fail
  refine (HSP.out _ _ S1.out).mono ?_
  rintro e W2 ⟨rfl, hb⟩
  replace B := Lib.hid (B.out.trans (hb.mono B.out.size))
  replace S1 := Lib.hid (S1.out.below hb)
  clear hb
  clear S1
  go_wp2_with fail
  refine (toP _ L1 _ (Q1.out.below B.out)).mono ?_
  rintro e W3 ⟨x1, rfl, ho, hb⟩
  replace B := Lib.hid (B.out.trans (hb.mono B.out.size))
  clear hb
  have O1 := Lib.hid ho
  clear ho
  have Y1 := Lib.hid (Below.refl W3.heap.size W3)
  go_wp2_with fail
  refine (HIM.out _ _ (O1.out.trms.below Y1.out)).mono ?_
  rintro e W4 ⟨rfl, hb⟩
  replace B := Lib.hid (B.out.trans (hb.mono B.out.size))
  replace Y1 := Lib.hid (Y1.out.trans (hb.mono Y1.out.size))
  clear hb
  go_wp2_with fail
  refine (toP _ L1 _ (Q1.out.below B.out)).mono ?_
  rintro e W5 ⟨y1, rfl, ho, hb⟩
  replace B := Lib.hid (B.out.trans (hb.mono B.out.size))
  replace Y1 := Lib.hid (Y1.out.trans (hb.mono Y1.out.size))
  clear hb
  have S1 := Lib.hid ho.trms
  clear ho
  go_wp2_with fail
  refine (eqP x1 y1 L1 _ (O1.out.trms.below Y1.out) S1.out).mono ?_
  rintro e W6 ⟨rfl, hb⟩
  clear S1
  replace B := Lib.hid (B.out.trans (hb.mono B.out.size))
  replace Y1 := Lib.hid (Y1.out.trans (hb.mono Y1.out.size))
  clear hb
  go_wp2_with fail
  go_ret
  exact ⟨rfl, B.out⟩
set_option maxHeartbeats 1000000 in
theorem xIsBalanced_long0 (a0 : Int) (a1 : Option Addr) (n1 c1 : Nat) (w : World) (h1 : 1048576 < n1) (h2 : n1 ≤ 9223372036854775807) :
    Calls Try.prog 9 #[.int .i64 a0, .slice a1 n1 c1] w fun e w' => e = .returned (.bool true) ∧ Below w.heap.size w w' := by
  have HS1 := Lib.hid (szP_over a1 n1 c1 (1048576) w (by omega) (by omega) (by omega) (by omega))
  clear h1 h2
  go_enter Try.func9, Try.ntmps9
  go_wp2_with fail
  refine HS1.out.mono ?_
  rintro e w' ⟨rfl, rfl⟩
  go_wp2_with fail
  go_ret
  exact ⟨rfl, Below.refl _ _⟩

theorem xIsBalanced (a0 : Int) (a1 : Option Addr) (len1 c1 : Nat) (L1 : List Trm) (w : World) (h1 : RowT w a1 len1 L1) :
    Calls Try.prog 9 #[.int .i64 a0, .slice a1 len1 c1] w fun e w' => e = .returned (.bool true) ∧ Below w.heap.size w w' := by
  by_cases q1 : len1 ≤ 1048576
  · skip
    have e1 := h1.1
    subst e1
    exact xIsBalanced_in a0 a1 L1 c1 ((cvB a0 L1 (fun n : Int => n == a0 * a0))) w (h1.trms (by omega)) (by omega) (fun f1 w k1 => sIsBalanced a0 f1 L1 w k1) (fun f1 w k1 => iIsBalanced a0 f1 L1 w k1)
  · exact xIsBalanced_long0 a0 a1 len1 c1 w (by omega) h1.2.1
end Go.Proofs.Ytajabchbdhjdiaa
