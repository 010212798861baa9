/-
  PolyOfFormula, of the model and of the program. Conditions: none.
  PolyOfFormula, of the model and of the program, and the walk of its exact law. Conditions: none.
  The walk of the exact law of PolyOfFormula. Conditions: none.
-/
import Derived.Test.YtiahcaihmgnicaaBb28
import Derived.Test.YtiahcaihmgnicaaBf5
import Derived.Test.YtiahcaihmgnicaaBb18
import Derived.Test.YtiahcaihmgnicaaBb5
import Derived.Test.YtiahcaihmgnicaaBb6
namespace Go.Proofs.Ytiahcaihmgnicaa
open Go.RowKit
/-- the polynomial of a formula, and whether there is one -/
def pfF (p : Int) : Fm → List Trm × Bool
  | .leaf k a => (if k = 0 then [onT a] else cnL a, true)
  | .pair k f g => if (pfF p f).2 = true ∧ (pfF p g).2 = true then (if k = 2 then sumV p (pfF p f).1 (pfF p g).1 else mulL p (pfF p f).1 (pfF p g).1, if k = 2 then addOk p (pfF p f).1 (pfF p g).1 else mulOk p (pfF p f).1 (pfF p g).1) else ([], false)
theorem pfF_pair {p k : Int} {f g : Fm} (hf : (pfF p f).2 = true) (hg : (pfF p g).2 = true) : pfF p (.pair k f g) = (if k = 2 then sumV p (pfF p f).1 (pfF p g).1 else mulL p (pfF p f).1 (pfF p g).1, if k = 2 then addOk p (pfF p f).1 (pfF p g).1 else mulOk p (pfF p f).1 (pfF p g).1) := by
  show (if _ then _ else _) = _
  rw [if_pos ⟨hf, hg⟩]
theorem pfF_none {p k : Int} {f g : Fm} (h : (pfF p f).2 = false ∨ (pfF p g).2 = false) : pfF p (.pair k f g) = ([], false) := by
  show (if _ then _ else _) = _
  rw [if_neg]
  rintro ⟨h1, h2⟩
  rcases h with h | h
  · rw [h] at h1; cases h1
  · rw [h] at h2; cases h2
theorem pc_one {p k a : Int} (hp : isP p = true) (h : (k = 0 ∧ (a = 0 ∨ a = 1 ∨ a = 2)) ∨ (k = 1 ∧ 0 ≤ a ∧ a < p)) : pcOk p [⟨k, a, 0⟩] = true ∧ pcV p [⟨k, a, 0⟩] = if k = 0 then [onT a] else cnL a := by
  have hv : circB p [⟨k, a, 0⟩] = true := by
    refine circB_iff.2 ⟨hp, by simp, by simp, fun j hj => ?_⟩
    have : j = 0 := by simpa using hj
    subst this
    show gOK (p - 1) ⟨k, a, 0⟩ 0 = true
    rcases h with ⟨rfl, h⟩ | ⟨rfl, h0, h1⟩
    · rcases h with rfl | rfl | rfl <;> rfl
    · simp [gOK, inB]; omega
  have hg : gAt [⟨k, a, 0⟩] 0 = ⟨k, a, 0⟩ := rfl
  have ho : pcO p [⟨k, a, 0⟩] 0 = true ∧ pcP p [⟨k, a, 0⟩] 0 = if k = 0 then [onT a] else cnL a := by
    rcases h with ⟨rfl, _⟩ | ⟨rfl, _⟩
    · exact ⟨(pcP_in (p := p) (L := [⟨0, a, 0⟩]) (j := 0) rfl).2, (pcP_in (p := p) (L := [⟨0, a, 0⟩]) (j := 0) rfl).1⟩
    · exact ⟨(pcP_cn (p := p) (L := [⟨1, a, 0⟩]) (j := 0) rfl).2, (pcP_cn (p := p) (L := [⟨1, a, 0⟩]) (j := 0) rfl).1⟩
  have hk : pcOk p [⟨k, a, 0⟩] = true := pc_good hv (fun j hj _ => by
    have : j = 0 := by simpa using hj
    subst this
    exact ho.1)
  exact ⟨hk, by unfold pcV; rw [if_pos hk]; exact ho.2⟩
/-- what the model hands back of a part -/
def GivesPF (R : List Trm) (j : Int) (b : Bool) (w : World) (e : Ending) (w' : World) : Prop :=
  ∃ v, e = .returned (.tuple #[v, .int .i64 j, .bool b]) ∧ OwnTrms w' w.heap.size v R ∧ Below w.heap.size w w'
set_option maxRecDepth 100000 in
set_option maxHeartbeats 4000000 in
theorem sPF (p : Int) (s : ByteArray) (hp : isP p = true) (hs : s.size ≤ 1000) : ∀ (n i : Nat) (f : Fm) (t1 : List UInt8) (w : World), parseF p n (s.data.toList.drop i) = some (f, t1) → i ≤ s.size →
    Calls Try.prog 106 #[.int .i64 p, .string s, .int .i64 (i : Int)] w (GivesPF (pfF p f).1 ((s.size : Int) - t1.length) (pfF p f).2 w)
  | n, i, f, t1, w, hpf, hi => by
    have hsl : s.data.toList.length = s.size := by rw [Array.length_toList]; rfl
    by_cases hlt : i < s.size
    · cases n with
      | zero => simp [parseF] at hpf
      | succ n =>
        have hdr := drop_at hlt
        obtain ⟨c, hc⟩ : ∃ c, c = s[i] := ⟨_, rfl⟩
        rw [← hc] at hdr
        have hltp : (i : Int) < (s.size : Int) := by omega
        have hi0 : (0 : Int) ≤ (i : Int) := by omega
        have hw2 : IntKind.i64.wrap ((i : Int) + 1) = (i : Int) + 1 := IntWalk.i64_in _ (by omega)
        have hcn : ((s[i].toNat : Nat) : Int) = ((c.toNat : Nat) : Int) := by rw [hc]
        have hlen : (s.data.toList.drop (i + 1)).length = s.size - (i + 1) := by rw [List.length_drop, hsl]
        rw [hdr] at hpf
        simp only [parseF] at hpf
        split at hpf
        · rename_i hsg
          cases h1 : parseF p n (s.data.toList.drop (i + 1)) with
          | none => rw [h1] at hpf; simp at hpf
          | some r1 =>
            obtain ⟨f1, u1⟩ := r1
            rw [h1] at hpf
            simp only at hpf
            cases h2 : parseF p n u1 with
            | none => rw [h2] at hpf; simp at hpf
            | some r2 =>
              obtain ⟨f2, u2⟩ := r2
              rw [h2] at hpf
              simp at hpf
              obtain ⟨rfl, rfl⟩ := hpf
              have e1 := parseF_drop h1
              have l1 := parseF_len h1
              have e2 : u1 = s.data.toList.drop (s.size - u1.length) := by
                rw [List.drop_drop] at e1
                rw [show s.size - u1.length = i + 1 + ((s.data.toList.drop (i + 1)).length - u1.length) by omega]
                exact e1
              have hcast : ((i + 1 : Nat) : Int) = (i : Int) + 1 := by omega
              have hcast2 : ((s.size - u1.length : Nat) : Int) = (s.size : Int) - u1.length := by omega
              have IH1 := Lib.hid (fun w => hcast ▸ sPF p s hp hs n (i + 1) f1 u1 w h1 (by omega))
              have h2' : parseF p n (s.data.toList.drop (s.size - u1.length)) = some (f2, u2) := by rw [← e2]; exact h2
              have IH2 := Lib.hid (fun w => hcast2 ▸ sPF p s hp hs n (s.size - u1.length) f2 u2 w h2' (by omega))
              have hcs : c = 43 ∨ c = 42 := by simpa [signB] using hsg
              have hpr := @pfF_pair p (kindB c) f1 f2
              have hpn := @pfF_none p (kindB c) f1 f2
              obtain ⟨Z, hZ⟩ : ∃ Z, Z = pfF p (.pair (kindB c) f1 f2) := ⟨_, rfl⟩
              rw [← hZ] at hpr hpn ⊢
              obtain ⟨⟨A, a⟩, hA⟩ : ∃ A, A = pfF p f1 := ⟨_, rfl⟩
              obtain ⟨⟨B, b⟩, hB⟩ : ∃ A, A = pfF p f2 := ⟨_, rfl⟩
              obtain ⟨j, hj⟩ : ∃ j : Int, j = (s.size : Int) - u1.length := ⟨_, rfl⟩
              obtain ⟨k, hk⟩ : ∃ k : Int, k = (s.size : Int) - u2.length := ⟨_, rfl⟩
              rw [← hA] at IH1 hpr hpn
              rw [← hB] at IH2 hpr hpn
              rw [← hj] at IH1 IH2
              rw [← hk] at IH2 ⊢
              simp only at IH1 IH2 hpr hpn
              clear hdr hc hlen h1 h2 h2' e1 l1 e2 hcast hcast2 hA hB hj hk hsg hZ
              have n43 : c = 42 → (((c.toNat : Nat) : Int) == 43) = false := by rintro rfl; rfl
              cases hab : (a && b)
              · have hz : Z = ([], false) := hpn (by cases a <;> cases b <;> simp at hab ⊢)
                have hz2 : (!a || !b) = true := by cases a <;> cases b <;> simp at hab ⊢
                have HAB := Lib.hid hab
                subst hz
                clear hpr hpn n43 hab
                go_enter Try.func106, Try.ntmps106
                rcases hcs with rfl | rfl
                all_goals
                  first | rw [show (((43 : UInt8).toNat : Nat) : Int) = 43 from rfl] at hcn | rw [show (((42 : UInt8).toNat : Nat) : Int) = 42 from rfl] at hcn
                  go_wp2_with fail
                  refine (IH1.out _).mono ?_
                  rintro e w1 ⟨v1, rfl, ho1, hb1⟩
                  have HB1 := Lib.hid hb1
                  obtain ⟨_, a1, k1, rfl, _⟩ := ho1
                  clear hb1
                  go_wp2_with fail
                  refine (IH2.out _).mono ?_
                  rintro e w2 ⟨v2, rfl, ho2, hb2⟩
                  have HB2 := Lib.hid (HB1.out.trans (hb2.mono HB1.out.size))
                  obtain ⟨_, a2, k2, rfl, _⟩ := ho2
                  clear hb2
                  cases a <;> cases b <;> first | (exact absurd HAB.out (by decide)) | skip
                  all_goals
                    clear HAB hz2
                    go_wp2_with fail
                    refine bodyPost_ret (v := .tuple #[.slice (some ⟨w2.heap.size, 0, none⟩) 0 0, .int .i64 k, .bool false]) (by simp [results, Try.results106, go_sem]) rfl ?_
                    exact ⟨_, rfl, (Row.lit0 w2 w.heap.size HB2.out.size).own (by simp), Below.alloc HB2.out HB2.out.size _⟩
              · have ha : a = true := by cases a <;> simp_all
                have hb : b = true := by cases b <;> simp_all
                subst ha hb
                have hz := hpr rfl rfl
                clear hpr hpn hab
                have HAD := Lib.hid (fun u v w' (h1 : Trms w' u A) (h2 : Trms w' v B) => sAddPoly p u v A B w' h1 h2)
                have HMU := Lib.hid (fun u v w' (h1 : Trms w' u A) (h2 : Trms w' v B) => sMulPoly p u v A B w' h1 h2)
                rcases hcs with rfl | rfl
                · rw [show kindB 43 = 2 from rfl, if_pos rfl, if_pos rfl] at hz
                  subst hz
                  obtain ⟨R, hR⟩ : ∃ R, R = sumV p A B := ⟨_, rfl⟩
                  obtain ⟨r, hr⟩ : ∃ r, r = addOk p A B := ⟨_, rfl⟩
                  rw [← hR, ← hr] at HAD ⊢
                  rw [show (((43 : UInt8).toNat : Nat) : Int) = 43 from rfl] at hcn
                  clear hR hr HMU n43
                  go_enter Try.func106, Try.ntmps106
                  go_wp2_with fail
                  refine (IH1.out _).mono ?_
                  rintro e w1 ⟨v1, rfl, ho1, hb1⟩
                  have HB1 := Lib.hid (And.intro hb1 ho1.trms)
                  obtain ⟨_, a1, k1, rfl, _⟩ := ho1
                  clear hb1
                  go_wp2_with fail
                  refine (IH2.out _).mono ?_
                  rintro e w2 ⟨v2, rfl, ho2, hb2⟩
                  have HB2 := Lib.hid (And.intro (HB1.out.1.trans (hb2.mono HB1.out.1.size)) (And.intro (HB1.out.2.below hb2) ho2.trms))
                  obtain ⟨_, a2, k2, rfl, _⟩ := ho2
                  clear hb2
                  go_wp2_with fail
                  refine (HAD.out _ _ _ HB2.out.2.1 HB2.out.2.2).mono ?_
                  rintro e w3 ⟨v3, rfl, ho3, hb3⟩
                  have HB3 := Lib.hid (And.intro (ownT_low ho3 HB2.out.1.size) (HB2.out.1.trans (hb3.mono HB2.out.1.size)))
                  obtain ⟨_, a3, k3, rfl, _⟩ := ho3
                  clear hb3
                  go_wp2_with fail
                  refine bodyPost_ret (v := .tuple #[.slice a3 R.length k3, .int .i64 k, .bool r]) (by simp [results, Try.results106, go_sem]) rfl ?_
                  exact ⟨_, rfl, HB3.out.1, HB3.out.2⟩
                · rw [show kindB 42 = 3 from rfl, if_neg (by decide), if_neg (by decide)] at hz
                  subst hz
                  obtain ⟨R, hR⟩ : ∃ R, R = mulL p A B := ⟨_, rfl⟩
                  obtain ⟨r, hr⟩ : ∃ r, r = mulOk p A B := ⟨_, rfl⟩
                  rw [← hR, ← hr] at HMU ⊢
                  rw [show (((42 : UInt8).toNat : Nat) : Int) = 42 from rfl] at hcn
                  clear hR hr HAD n43
                  go_enter Try.func106, Try.ntmps106
                  go_wp2_with fail
                  refine (IH1.out _).mono ?_
                  rintro e w1 ⟨v1, rfl, ho1, hb1⟩
                  have HB1 := Lib.hid (And.intro hb1 ho1.trms)
                  obtain ⟨_, a1, k1, rfl, _⟩ := ho1
                  clear hb1
                  go_wp2_with fail
                  refine (IH2.out _).mono ?_
                  rintro e w2 ⟨v2, rfl, ho2, hb2⟩
                  have HB2 := Lib.hid (And.intro (HB1.out.1.trans (hb2.mono HB1.out.1.size)) (And.intro (HB1.out.2.below hb2) ho2.trms))
                  obtain ⟨_, a2, k2, rfl, _⟩ := ho2
                  clear hb2
                  go_wp2_with fail
                  refine (HMU.out _ _ _ HB2.out.2.1 HB2.out.2.2).mono ?_
                  rintro e w3 ⟨v3, rfl, ho3, hb3⟩
                  have HB3 := Lib.hid (And.intro (ownT_low ho3 HB2.out.1.size) (HB2.out.1.trans (hb3.mono HB2.out.1.size)))
                  obtain ⟨_, a3, k3, rfl, _⟩ := ho3
                  clear hb3
                  go_wp2_with fail
                  refine bodyPost_ret (v := .tuple #[.slice a3 R.length k3, .int .i64 k, .bool r]) (by simp [results, Try.results106, go_sem]) rfl ?_
                  exact ⟨_, rfl, HB3.out.1, HB3.out.2⟩
        · rename_i hsg
          cases h1 : leafB p c with
          | none => rw [h1] at hpf; simp at hpf
          | some r1 =>
            obtain ⟨k, a⟩ := r1
            rw [h1] at hpf
            simp at hpf
            obtain ⟨rfl, rfl⟩ := hpf
            have HG := Lib.hid (fun w => sGate4 p c k a w h1)
            have hpc := pc_one hp (leafB_ok h1)
            have HPC := Lib.hid (fun f w' (h : Gats w' f [⟨k, a, 0⟩]) => show Calls Try.prog 35 #[.int .i64 p, f] w' (GivesPB (if k = 0 then [onT a] else cnL a) true w') by
              rw [← hpc.1, ← hpc.2]
              exact sPolyOfCircuit p f _ w' h)
            have n43 : ¬ ((c.toNat : Nat) : Int) = 43 := byte_ne (b := 43) (fun e => by rw [e] at hsg; simp [signB] at hsg)
            have n42 : ¬ ((c.toNat : Nat) : Int) = 42 := byte_ne (b := 42) (fun e => by rw [e] at hsg; simp [signB] at hsg)
            have b43 : (((c.toNat : Nat) : Int) != 43) = true := bne_iff_ne.2 n43
            have b42 : (((c.toNat : Nat) : Int) != 42) = true := bne_iff_ne.2 n42
            have hend : (s.size : Int) - ((s.data.toList.drop (i + 1)).length : Nat) = (i : Int) + 1 := by rw [hlen]; omega
            rw [hend]
            show Calls _ _ _ _ (GivesPF (if k = 0 then [onT a] else cnL a) _ true w)
            obtain ⟨R, hR⟩ : ∃ R, R = (if k = 0 then [onT a] else cnL a) := ⟨_, rfl⟩
            rw [← hR] at HPC ⊢
            clear hdr hc hlen h1 hsg hend hR hpc
            go_enter Try.func106, Try.ntmps106
            go_wp2_with fail
            refine (HG.out _).mono ?_
            rintro e w1 ⟨rfl, hb1⟩
            have HB1 := Lib.hid hb1
            clear hb1
            go_wp2_with fail
            refine (HPC.out _ _ ?_).mono ?_
            · refine ⟨by simp, _, 1, rfl, .inr ⟨w1.heap.size, 0, rfl, by simp, fun j hj => ?_⟩⟩
              have : j = 0 := by simpa using hj
              subst this
              refine ⟨?_, ?_, ?_⟩ <;> simp [go_sem]
            rintro e w3 ⟨v3, rfl, ho3, hb3⟩
            have HB3 := Lib.hid (show OwnTrms w3 w.heap.size v3 R ∧ Below w.heap.size w w3 from ⟨ownT_low ho3 (by have := HB1.out.size; simp; omega), (Below.alloc HB1.out HB1.out.size _).trans (hb3.mono (by have := HB1.out.size; simp; omega))⟩)
            obtain ⟨_, a3, k3, rfl, _⟩ := ho3
            clear hb3
            go_wp2_with fail
            refine bodyPost_ret (v := .tuple #[.slice a3 R.length k3, .int .i64 ((i : Int) + 1), .bool true]) (by simp [results, Try.results106, go_sem]) rfl ?_
            exact ⟨_, rfl, HB3.out.1, HB3.out.2⟩
    · rw [List.drop_eq_nil_of_le (by omega)] at hpf
      cases n <;> simp [parseF] at hpf
termination_by n _ _ _ => n
end Go.Proofs.Ytiahcaihmgnicaa
namespace Go.Proofs.Ytiahcaihmgnicaa
open Go.RowKit
/-- what PolyOfFormula returns -/
def pffV (p : Int) (s : ByteArray) : List Trm := match foF p s with
  | none => []
  | some f => (pfF p f).1
def pffB (p : Int) (s : ByteArray) : Bool := match foF p s with
  | none => false
  | some f => (pfF p f).2
theorem pfF_len (p : Int) : ∀ f : Fm, (pfF p f).1.length ≤ 60
  | .leaf k a => by
    show (if k = 0 then [onT a] else cnL a).length ≤ 60
    unfold cnL
    repeat' split
    all_goals simp
  | .pair k f g => by
    show (if _ then _ else _ : List Trm × Bool).1.length ≤ 60
    split
    · show (if k = 2 then _ else _ : List Trm).length ≤ 60
      split
      · exact sumV_len
      · exact mulL_len
    · simp
set_option maxRecDepth 100000 in
set_option maxHeartbeats 4000000 in
theorem sPolyOfFormula (p : Int) (s : ByteArray) (w : World) :
    Calls Try.prog 48 #[.int .i64 p, .string s] w (GivesPB (pffV p s) (pffB p s) w) := by
  have HF := Lib.hid (sFormulaValid p s)
  cases h : foF p s with
  | none =>
    have e : pffV p s = [] ∧ pffB p s = false := by unfold pffV pffB; rw [h]; exact ⟨rfl, rfl⟩
    have e2 : fokB p s = false := by rw [fokB_some, h]; rfl
    rw [e.1, e.2]
    rw [e2] at HF
    clear h e e2
    go_enter Try.func48, Try.ntmps48
    go_wp2_with fail
    refine (HF.out _).mono ?_
    rintro e w1 ⟨rfl, hb1⟩
    have HB := Lib.hid hb1
    clear hb1
    go_wp2_with fail
    refine bodyPost_ret (results_tmp2 rfl _ _ _) rfl ?_
    exact ⟨_, rfl, (Row.lit0 w1 w.heap.size HB.out.size).own (by simp), Below.alloc HB.out HB.out.size _⟩
  | some f =>
    have e2 : fokB p s = true := by rw [fokB_some, h]; rfl
    rw [e2] at HF
    obtain ⟨hp, hs, hf⟩ := foF_some h
    have e : pffV p s = (pfF p f).1 ∧ pffB p s = (pfF p f).2 := by unfold pffV pffB; rw [h]; exact ⟨rfl, rfl⟩
    rw [e.1, e.2]
    have hw : parseF p s.size (s.data.toList.drop 0) = some (f, []) := by
      unfold formF at hf
      rw [Array.length_toList] at hf
      rw [List.drop_zero]
      show parseF p s.data.size _ = _
      cases h1 : parseF p s.data.size s.data.toList with
      | none => rw [h1] at hf; simp at hf
      | some r =>
        obtain ⟨g, u⟩ := r
        rw [h1] at hf
        cases u with
        | nil => simp at hf; rw [hf]
        | cons c u => simp at hf
    have HV := Lib.hid (fun w => sPF p s hp (by omega) s.size 0 f [] w hw (by omega))
    obtain ⟨R, hR⟩ : ∃ R, R = (pfF p f).1 := ⟨_, rfl⟩
    obtain ⟨r, hr⟩ : ∃ r, r = (pfF p f).2 := ⟨_, rfl⟩
    obtain ⟨k, hk⟩ : ∃ k : Int, k = (s.size : Int) - (([] : List UInt8).length : Nat) := ⟨_, rfl⟩
    rw [← hR, ← hr, ← hk] at HV
    rw [← hR, ← hr]
    clear h e e2 hf hp hw hr hk hR
    go_enter Try.func48, Try.ntmps48
    go_wp2_with fail
    refine (HF.out _).mono ?_
    rintro e w1 ⟨rfl, hb1⟩
    have HB := Lib.hid hb1
    clear hb1
    go_wp2_with fail
    refine (HV.out _).mono ?_
    rintro e w2 ⟨v2, rfl, ho2, hb2⟩
    have HB2 := Lib.hid (And.intro (ownT_low ho2 HB.out.size) (HB.out.trans (hb2.mono HB.out.size)))
    obtain ⟨_, a2, k2, rfl, _⟩ := ho2
    clear hb2
    go_wp2_with fail
    refine bodyPost_ret (results_tmp2 rfl _ _ _) rfl ?_
    exact ⟨_, rfl, HB2.out.1, HB2.out.2⟩
set_option maxRecDepth 100000 in
set_option maxHeartbeats 4000000 in
theorem iExpNil (p : Int) (w : World) : Calls Try.prog 107 #[.int .i64 p, .nilIface] w (GivesPB [] false w) := by
  go_enter Try.func107, Try.ntmps107
  go_wp2_with fail
  refine bodyPost_ret (results_tmp2 rfl _ _ _) rfl ?_
  exact ⟨_, rfl, (Row.nil w w.heap.size).own (by simp), Below.refl _ _⟩
set_option maxRecDepth 100000 in
set_option maxHeartbeats 8000000 in
theorem iExp (p : Int) (hp : isP p = true) : ∀ (f : Fm) (w : World), okF p f →
    Calls Try.prog 107 #[.int .i64 p, fmV f] w (GivesPB (pfF p f).1 (pfF p f).2 w)
  | .leaf k a, w, hok => by
    show Calls Try.prog 107 #[.int .i64 p, .iface 156 (.agg #[.int .i64 k, .int .i64 a, .int .i64 0])] w (GivesPB (if k = 0 then [onT a] else cnL a) true w)
    have HG := Lib.hid (fun w => show Calls Try.prog 92 #[.agg #[.int .i64 k, .int .i64 a, .int .i64 0], .int .i64 p, .slice none 0 0] w (GivesPB (if k = 0 then [onT a] else cnL a) true w) by
      rcases hok with ⟨rfl, ha⟩ | ⟨rfl, ha⟩
      · rw [if_pos rfl]
        exact iGPoly0 p a 0 ha none 0 0 w
      · rw [if_neg (by decide)]
        exact iGPoly1 p a 0 hp ha none 0 0 w)
    obtain ⟨R, hR⟩ : ∃ R, R = (if k = 0 then [onT a] else cnL a) := ⟨_, rfl⟩
    rw [← hR] at HG ⊢
    clear hok hR
    go_enter Try.func107, Try.ntmps107
    go_wp2_with fail
    refine (HG.out _).mono ?_
    rintro e w2 ⟨v2, rfl, ho2, hb2⟩
    have HB2 := Lib.hid (show OwnTrms w2 w.heap.size v2 R ∧ Below w.heap.size w w2 from ⟨ownT_low ho2 (by simp), (Below.alloc (Below.refl _ _) (Nat.le_refl _) _).trans (hb2.mono (by simp))⟩)
    obtain ⟨_, a2, k2, rfl, _⟩ := ho2
    clear hb2
    go_wp2_with fail
    refine bodyPost_ret (results_tmp2 rfl _ _ _) rfl ?_
    exact ⟨_, rfl, HB2.out.1, HB2.out.2⟩
  | .pair k f g, w, hok => by
    obtain ⟨hk, hof, hog⟩ := hok
    have IF := Lib.hid (fun w => iExp p hp f w hof)
    have IG := Lib.hid (fun w => iExp p hp g w hog)
    have hpr := @pfF_pair p k f g
    have hpn := @pfF_none p k f g
    show Calls Try.prog 107 #[.int .i64 p, .iface 159 (.agg #[.int .i64 k, fmV f, fmV g])] w (GivesPB (pfF p (.pair k f g)).1 (pfF p (.pair k f g)).2 w)
    obtain ⟨Z, hZ⟩ : ∃ Z, Z = pfF p (.pair k f g) := ⟨_, rfl⟩
    rw [← hZ] at hpr hpn ⊢
    obtain ⟨⟨A, a⟩, hA⟩ : ∃ A, A = pfF p f := ⟨_, rfl⟩
    obtain ⟨⟨B, b⟩, hB⟩ : ∃ A, A = pfF p g := ⟨_, rfl⟩
    rw [← hA] at IF hpr hpn
    rw [← hB] at IG hpr hpn
    simp only at IF IG hpr hpn
    obtain ⟨ft, fv, hfe⟩ := fmV_is f
    obtain ⟨gt, gv, hge⟩ := fmV_is g
    have HO := Lib.hid (And.intro (fmV_one' f hfe) (fmV_one' g hge))
    rw [hfe] at IF ⊢
    rw [hge] at IG ⊢
    have hAl : A.length ≤ 60 := by have := pfF_len p f; rw [← hA] at this; exact this
    have hBl : B.length ≤ 60 := by have := pfF_len p g; rw [← hB] at this; exact this
    clear hZ hA hB hfe hge hof hog
    obtain ⟨W, hW⟩ : ∃ W, W = w.alloc (Obj.cells #[.int .i64 k, .iface ft fv, .iface gt gv] 159) := ⟨_, rfl⟩
    have HC := Lib.hid (fun w' (hb : Below W.heap.size W w') => show w'.cell? ⟨w.heap.size, 0, none⟩ = some (.int .i64 k) ∧ w'.cell? ⟨w.heap.size, 1, none⟩ = some (.iface ft fv) ∧ w'.cell? ⟨w.heap.size, 2, none⟩ = some (.iface gt gv) ∧ Below w.heap.size w w' by
      have hs : w.heap.size < W.heap.size := by rw [hW]; simp
      refine ⟨?_, ?_, ?_, (show Below w.heap.size w W by rw [hW]; exact Below.alloc (Below.refl _ _) (Nat.le_refl _) _).trans (hb.mono (by omega))⟩
      · rw [hb.cell (p := ⟨w.heap.size, 0, none⟩) hs, hW]; simp [go_sem]
      · rw [hb.cell (p := ⟨w.heap.size, 1, none⟩) hs, hW]; simp [go_sem]
      · rw [hb.cell (p := ⟨w.heap.size, 2, none⟩) hs, hW]; simp [go_sem])
    have HW := Lib.hid hW
    obtain ⟨c0, c1, c2, -⟩ := HC.out W (Below.refl _ _)
    clear hW
    cases hab : (a && b)
    · have hz : Z = ([], false) := hpn (by cases a <;> cases b <;> simp at hab ⊢)
      have HAB := Lib.hid hab
      subst hz
      clear hpr hpn hab
      go_enter Try.func107, Try.ntmps107
      go_wp2_with fail
      rw [← HW.out]
      refine (IF.out _).mono ?_
      rintro e w1 ⟨v1, rfl, ho1, hb1⟩
      have HB1 := Lib.hid hb1
      obtain ⟨_, a1, k1, rfl, _⟩ := ho1
      clear hb1 c0 c1 c2
      obtain ⟨c0, c1, c2, -⟩ := HC.out w1 HB1.out
      go_wp2_with fail
      refine (IG.out _).mono ?_
      rintro e w2 ⟨v2, rfl, ho2, hb2⟩
      have HB2 := Lib.hid (HB1.out.trans (hb2.mono HB1.out.size))
      obtain ⟨_, a2, k2, rfl, _⟩ := ho2
      clear hb2 c0 c1 c2
      obtain ⟨c0, c1, c2, hlow⟩ := HC.out w2 HB2.out
      have HQ := Lib.hid hlow
      clear hlow
      cases a <;> cases b <;> first | (exact absurd HAB.out (by decide)) | skip
      all_goals
        clear HAB
        go_wp2_with fail
        refine bodyPost_ret (results_tmp2 rfl _ _ _) rfl ?_
        exact ⟨_, rfl, (Row.nil w2 w.heap.size).own (by simp), HQ.out⟩
    · have ha : a = true := by cases a <;> simp_all
      have hb : b = true := by cases b <;> simp_all
      subst ha hb
      have hz := hpr rfl rfl
      clear hpr hpn hab
      have HG := Lib.hid (fun (g0 cap : Nat) u v w' (hg : g0 < w'.heap.size) (h0 : w'.cell? ⟨g0, 0, none⟩ = some u) (h1 : w'.cell? ⟨g0, 1, none⟩ = some v) (hu : Trms w' u A) (hv : Trms w' v B) =>
        show Calls Try.prog 92 #[.agg #[.int .i64 k, .int .i64 0, .int .i64 1], .int .i64 p, .slice (some ⟨g0, 0, none⟩) 2 cap] w' (GivesPB Z.1 Z.2 w') by
          rw [hz]
          exact iGPoly2 p k hk 0 1 2 (by omega) (by omega) (by omega) g0 cap u v A B w' hg h0 h1 hu hv)
      obtain ⟨R, r⟩ := Z
      simp only at HG ⊢
      clear hz hk
      go_enter Try.func107, Try.ntmps107
      go_wp2_with fail
      rw [← HW.out]
      refine (IF.out _).mono ?_
      rintro e w1 ⟨v1, rfl, ho1, hb1⟩
      have HB1 := Lib.hid (And.intro hb1 ho1.trms)
      obtain ⟨_, a1, k1, rfl, _⟩ := ho1
      clear hb1 c0 c1 c2
      obtain ⟨c0, c1, c2, -⟩ := HC.out w1 HB1.out.1
      go_wp2_with fail
      refine (IG.out _).mono ?_
      rintro e w2 ⟨v2, rfl, ho2, hb2⟩
      have HB2 := Lib.hid (And.intro (HB1.out.1.trans (hb2.mono HB1.out.1.size)) (And.intro (HB1.out.2.below hb2) ho2.trms))
      obtain ⟨_, a2, k2, rfl, _⟩ := ho2
      clear hb2 c0 c1 c2
      obtain ⟨c0, c1, c2, hlow⟩ := HC.out w2 HB2.out.1
      have HQ := Lib.hid hlow
      clear hlow
      go_wp2_with fail
      refine (iPairGate k _ _ HO.out.1 HO.out.2 _).mono ?_
      rintro e w3 ⟨rfl, hb3⟩
      have HB3 := Lib.hid (And.intro (HQ.out.trans (hb3.mono HQ.out.size)) (And.intro (HB2.out.2.1.below hb3) (HB2.out.2.2.below hb3)))
      clear hb3 c0 c1 c2
      go_wp2_with fail
      have hbn : Below w3.heap.size w3 (w3.alloc (Obj.cells #[.slice a1 A.length k1, .slice a2 B.length k2] 25)) := Below.alloc (Below.refl _ _) (Nat.le_refl _) _
      refine (HG.out w3.heap.size 2 _ _ _ (by simp) (by simp [go_sem]; done) (by simp [go_sem]; done) (HB3.out.2.1.below hbn) (HB3.out.2.2.below hbn)).mono ?_
      rintro e w4 ⟨v4, rfl, ho4, hb4⟩
      have HB4 := Lib.hid (show OwnTrms w4 w.heap.size v4 R ∧ Below w.heap.size w w4 from ⟨ownT_low ho4 (by have := HB3.out.1.size; simp; omega), HB3.out.1.trans ((hbn.mono HB3.out.1.size).trans (hb4.mono (by have := HB3.out.1.size; simp; omega)))⟩)
      obtain ⟨_, a4, k4, rfl, _⟩ := ho4
      clear hb4 hbn
      go_wp2_with fail
      refine bodyPost_ret (results_tmp2 rfl _ _ _) rfl ?_
      exact ⟨_, rfl, HB4.out.1, HB4.out.2⟩
set_option maxRecDepth 100000 in
set_option maxHeartbeats 4000000 in
theorem iPolyOfFormula (p : Int) (s : ByteArray) (w : World) :
    Calls Try.prog 49 #[.int .i64 p, .string s] w (GivesPB (pffV p s) (pffB p s) w) := by
  have HF := Lib.hid (iFormulaOf p s)
  have HV := Lib.hid (fun w => show Calls Try.prog 107 #[.int .i64 p, optV (foF p s)] w (GivesPB (pffV p s) (pffB p s) w) by
    unfold pffV pffB
    cases h : foF p s with
    | none => exact iExpNil p w
    | some f => exact iExp p (foF_some h).1 f w (formF_ok (foF_some h).2.2))
  obtain ⟨u, hu⟩ : ∃ u, u = optV (foF p s) := ⟨_, rfl⟩
  obtain ⟨R, hR⟩ : ∃ R, R = pffV p s := ⟨_, rfl⟩
  obtain ⟨r, hr⟩ : ∃ r, r = pffB p s := ⟨_, rfl⟩
  rw [← hu] at HF HV
  rw [← hR, ← hr] at HV ⊢
  clear hu hR hr
  go_enter Try.func49, Try.ntmps49
  go_wp2_with fail
  refine (HF.out _).mono ?_
  rintro e w1 ⟨rfl, hb1⟩
  have HB := Lib.hid hb1
  clear hb1
  go_wp2_with fail
  refine (HV.out _).mono ?_
  rintro e w2 ⟨v2, rfl, ho2, hb2⟩
  have HB2 := Lib.hid (And.intro (ownT_low ho2 HB.out.size) (HB.out.trans (hb2.mono HB.out.size)))
  obtain ⟨_, a2, k2, rfl, _⟩ := ho2
  clear hb2
  go_wp2_with fail
  refine bodyPost_ret (results_tmp2 rfl _ _ _) rfl ?_
  exact ⟨_, rfl, HB2.out.1, HB2.out.2⟩
end Go.Proofs.Ytiahcaihmgnicaa
namespace Go.Proofs.Ytiahcaihmgnicaa
open Go.RowKit
set_option maxRecDepth 100000 in
set_option maxHeartbeats 8000000 in
theorem xPolyOfFormula_in (a0 : Int) (s : ByteArray) (r0 : List Trm) (r1 : Bool) (w : World) (hlen : ¬ ((1048576 : Int) < (s.size : Int)))
    (hS : ∀ w, Calls Try.prog 48 #[.int .i64 a0, .string s] w fun e w' => ∃ u0, e = .returned (.tuple #[u0, .bool r1]) ∧ OwnTrms w' w.heap.size u0 r0 ∧ Below w.heap.size w w')
    (hI : ∀ w, Calls Try.prog 49 #[.int .i64 a0, .string s] w fun e w' => ∃ u0, e = .returned (.tuple #[u0, .bool r1]) ∧ OwnTrms w' w.heap.size u0 r0 ∧ Below w.heap.size w w') :
    Calls Try.prog 11 #[.int .i64 a0, .string s] w fun e w' => e = .returned (.bool true) ∧ Below w.heap.size w w' := by
  skip
  have HSP := Lib.hid hS
  have HIM := Lib.hid hI
  clear hS hI
  have bb1 := bne_self2 r1
  go_enter Try.func11, Try.ntmps11
  have B := Lib.hid (Below.refl w.heap.size w)
  go_wp2_with fail
  refine (HSP.out  _ ).mono ?_
  rintro e W1 ⟨v0, rfl, hv0, hb⟩
  have Z1 := Lib.hid hb.size
  replace B := Lib.hid (B.out.trans (hb.mono B.out.size))
  clear hb
  have V0 := Lib.hid hv0.trms
  have z0 : (r0.length : Int) ≤ 1048576 := by have := hv0.1; omega
  clear hv0
  have X := Lib.hid (Below.refl W1.heap.size W1)
  go_wp2_with fail
  refine (HIM.out  _ ).mono ?_
  rintro e W2 ⟨g0, rfl, hg0, hb⟩
  have PG := Lib.hid (show w.heap.size ≤ W1.heap.size ∧ W1.heap.size ≤ W1.heap.size by have := Z1.out; first | omega | (refine ⟨?_, ?_⟩ <;> omega))
  replace B := Lib.hid (B.out.trans (hb.mono B.out.size))
  replace X := Lib.hid (X.out.trans (hb.mono X.out.size))
  clear hb
  have G0 := Lib.hid hg0
  clear hg0
  go_wp2_with fail
  refine (eqP g0 v0 r0 _ G0.out.trms (V0.out.below X.out)).mono ?_
  rintro e W3 ⟨rfl, hb⟩
  replace B := Lib.hid (B.out.trans (hb.mono B.out.size))
  replace X := Lib.hid (X.out.trans (hb.mono X.out.size))
  replace G0 := Lib.hid (G0.out.below hb)
  clear hb
  go_wp2_with fail
  refine (markTown g0 r0 _ (1) _ G0.out (by omega) (by omega)).mono ?_
  rintro e W4 ⟨rfl, hh, hb, hs⟩
  replace B := Lib.hid (B.out.trans (hb.mono PG.out.1))
  replace X := Lib.hid (X.out.trans (hb.mono PG.out.2))
  have D0 := Lib.hid hh
  clear hh hb hs
  go_wp2_with fail
  refine (heldTown g0 r0.length _ 1 _ D0.out (by omega) (by omega)).mono ?_
  rintro e W5 ⟨rfl, rfl⟩
  go_wp2_with fail
  refine (HIM.out  _ ).mono ?_
  rintro e W6 ⟨t0, rfl, ht0, hb⟩
  replace B := Lib.hid (B.out.trans (hb.mono B.out.size))
  replace X := Lib.hid (X.out.trans (hb.mono X.out.size))
  replace D0 := Lib.hid (D0.out.below hb)
  clear hb
  have T0 := Lib.hid ht0.trms
  clear ht0
  go_wp2_with fail
  refine (eqP t0 v0 r0 _ T0.out (V0.out.below X.out)).mono ?_
  rintro e W7 ⟨rfl, hb⟩
  replace B := Lib.hid (B.out.trans (hb.mono B.out.size))
  replace X := Lib.hid (X.out.trans (hb.mono X.out.size))
  replace D0 := Lib.hid (D0.out.below hb)
  replace T0 := Lib.hid (T0.out.below hb)
  clear hb
  go_wp2_with fail
  refine (heldTown g0 r0.length _ 1 _ D0.out (by omega) (by omega)).mono ?_
  rintro e W8 ⟨rfl, rfl⟩
  go_wp2_with fail
  go_ret
  exact ⟨rfl, B.out⟩
set_option maxRecDepth 100000 in
set_option maxHeartbeats 4000000 in
theorem xPolyOfFormula (p : Int) (s : ByteArray) (w : World) :
    Calls Try.prog 11 #[.int .i64 p, .string s] w fun e w' => e = .returned (.bool true) ∧ Below w.heap.size w w' := by
  rcases Classical.em ((1048576 : Int) < (s.size : Int)) with hl | hl
  · go_enter Try.func11, Try.ntmps11
    go_wp2_with fail
    go_ret
    exact ⟨rfl, Below.refl _ _⟩
  · exact xPolyOfFormula_in p s (pffV p s) (pffB p s) w hl (fun w => sPolyOfFormula p s w) (fun w => iPolyOfFormula p s w)
end Go.Proofs.Ytiahcaihmgnicaa
