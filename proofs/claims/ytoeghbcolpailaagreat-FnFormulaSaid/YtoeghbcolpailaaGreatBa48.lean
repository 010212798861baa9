/-
  PolyOfFormula, of the model and of the program. Conditions: none.
  PolyOfFormula, of the model and of the program, and the walk of its exact law. Conditions: none.
  The formula of a circuit against the circuit: it is read as the tree of its last gate; polynomials; gates of the circuit with sharing. No world.
  The circuit of a formula, with sharing, against the formula: no gate twice, the root stands last, all gates used, the text again. No world.
  Formulas and their polynomials at a point; texts that go on behind a formula. Mathematics alone. Conditions: the text is a formula.
-/
import Derived.Test.YtoeghbcolpailaaGreatBa47
import Derived.Test.YtoeghbcolpailaaGreatBa29
import Derived.Test.YtoeghbcolpailaaGreatBa11
import Derived.Test.YtoeghbcolpailaaGreatBa7
import Derived.Test.YtoeghbcolpailaaGreatBa37
import Derived.Test.YtoeghbcolpailaaGreatBa42
import Derived.Test.YtoeghbcolpailaaGreatBa46
import Derived.Test.YtoeghbcolpailaaGreatBa44
import Derived.Test.YtoeghbcolpailaaGreatBa39
namespace Go.Proofs.YtoeghbcolpailaaGreat
open Go.RowKit
/-- the polynomial of a formula, and whether there is one -/
def pfF (p : Int) : Fm → List Trm × Bool
  | .leaf k a => (if k = 0 then [onT a] else cnL a, true)
  | .pair k f g => if (pfF p f).2 = true ∧ (pfF p g).2 = true then (if k = 2 then sumV p (pfF p f).1 (pfF p g).1 else mulL p (pfF p f).1 (pfF p g).1, if k = 2 then addOk p (pfF p f).1 (pfF p g).1 else mulOk p (pfF p f).1 (pfF p g).1) else ([], false)
theorem pfF_pair {p k : Int} {f g : Fm} (hf : (pfF p f).2 = true) (hg : (pfF p g).2 = true) : pfF p (.pair k f g) = (if k = 2 then sumV p (pfF p f).1 (pfF p g).1 else mulL p (pfF p f).1 (pfF p g).1, if k = 2 then addOk p (pfF p f).1 (pfF p g).1 else mulOk p (pfF p f).1 (pfF p g).1) := by
  show (if _ then _ else _) = _
  rw [if_pos ⟨hf, hg⟩]
theorem pfF_none {p k : Int} {f g : Fm} (h : (pfF p f).2 = false ∨ (pfF p g).2 = false) : pfF p (.pair k f g) = ([], false) := by
  show (if _ then _ else _) = _
  rw [if_neg]
  rintro ⟨h1, h2⟩
  rcases h with h | h
  · rw [h] at h1; cases h1
  · rw [h] at h2; cases h2
theorem pc_one {p k a : Int} (hp : isP p = true) (h : (k = 0 ∧ (a = 0 ∨ a = 1 ∨ a = 2)) ∨ (k = 1 ∧ 0 ≤ a ∧ a < p)) : pcOk p [⟨k, a, 0⟩] = true ∧ pcV p [⟨k, a, 0⟩] = if k = 0 then [onT a] else cnL a := by
  have hv : circB p [⟨k, a, 0⟩] = true := by
    refine circB_iff.2 ⟨hp, by simp, by simp, fun j hj => ?_⟩
    have : j = 0 := by simpa using hj
    subst this
    show gOK (p - 1) ⟨k, a, 0⟩ 0 = true
    rcases h with ⟨rfl, h⟩ | ⟨rfl, h0, h1⟩
    · rcases h with rfl | rfl | rfl <;> rfl
    · simp [gOK, inB]; omega
  have hg : gAt [⟨k, a, 0⟩] 0 = ⟨k, a, 0⟩ := rfl
  have ho : pcO p [⟨k, a, 0⟩] 0 = true ∧ pcP p [⟨k, a, 0⟩] 0 = if k = 0 then [onT a] else cnL a := by
    rcases h with ⟨rfl, _⟩ | ⟨rfl, _⟩
    · exact ⟨(pcP_in (p := p) (L := [⟨0, a, 0⟩]) (j := 0) rfl).2, (pcP_in (p := p) (L := [⟨0, a, 0⟩]) (j := 0) rfl).1⟩
    · exact ⟨(pcP_cn (p := p) (L := [⟨1, a, 0⟩]) (j := 0) rfl).2, (pcP_cn (p := p) (L := [⟨1, a, 0⟩]) (j := 0) rfl).1⟩
  have hk : pcOk p [⟨k, a, 0⟩] = true := pc_good hv (fun j hj _ => by
    have : j = 0 := by simpa using hj
    subst this
    exact ho.1)
  exact ⟨hk, by unfold pcV; rw [if_pos hk]; exact ho.2⟩
/-- what the model hands back of a part -/
def GivesPF (R : List Trm) (j : Int) (b : Bool) (w : World) (e : Ending) (w' : World) : Prop :=
  ∃ v, e = .returned (.tuple #[v, .int .i64 j, .bool b]) ∧ OwnTrms w' w.heap.size v R ∧ Below w.heap.size w w'
set_option maxRecDepth 100000 in
set_option maxHeartbeats 4000000 in
theorem sPF (p : Int) (s : ByteArray) (hp : isP p = true) (hs : s.size ≤ 1000) : ∀ (n i : Nat) (f : Fm) (t1 : List UInt8) (w : World), parseF p n (s.data.toList.drop i) = some (f, t1) → i ≤ s.size →
    Calls Tryz.prog 25 #[.int .i64 p, .string s, .int .i64 (i : Int)] w (GivesPF (pfF p f).1 ((s.size : Int) - t1.length) (pfF p f).2 w)
  | n, i, f, t1, w, hpf, hi => by
    have hsl : s.data.toList.length = s.size := by rw [Array.length_toList]; rfl
    by_cases hlt : i < s.size
    · cases n with
      | zero => simp [parseF] at hpf
      | succ n =>
        have hdr := drop_at hlt
        obtain ⟨c, hc⟩ : ∃ c, c = s[i] := ⟨_, rfl⟩
        rw [← hc] at hdr
        have hltp : (i : Int) < (s.size : Int) := by omega
        have hi0 : (0 : Int) ≤ (i : Int) := by omega
        have hw2 : IntKind.i64.wrap ((i : Int) + 1) = (i : Int) + 1 := IntWalk.i64_in _ (by omega)
        have hcn : ((s[i].toNat : Nat) : Int) = ((c.toNat : Nat) : Int) := by rw [hc]
        have hlen : (s.data.toList.drop (i + 1)).length = s.size - (i + 1) := by rw [List.length_drop, hsl]
        rw [hdr] at hpf
        simp only [parseF] at hpf
        split at hpf
        · rename_i hsg
          cases h1 : parseF p n (s.data.toList.drop (i + 1)) with
          | none => rw [h1] at hpf; simp at hpf
          | some r1 =>
            obtain ⟨f1, u1⟩ := r1
            rw [h1] at hpf
            simp only at hpf
            cases h2 : parseF p n u1 with
            | none => rw [h2] at hpf; simp at hpf
            | some r2 =>
              obtain ⟨f2, u2⟩ := r2
              rw [h2] at hpf
              simp at hpf
              obtain ⟨rfl, rfl⟩ := hpf
              have e1 := parseF_drop h1
              have l1 := parseF_len h1
              have e2 : u1 = s.data.toList.drop (s.size - u1.length) := by
                rw [List.drop_drop] at e1
                rw [show s.size - u1.length = i + 1 + ((s.data.toList.drop (i + 1)).length - u1.length) by omega]
                exact e1
              have hcast : ((i + 1 : Nat) : Int) = (i : Int) + 1 := by omega
              have hcast2 : ((s.size - u1.length : Nat) : Int) = (s.size : Int) - u1.length := by omega
              have IH1 := Lib.hid (fun w => hcast ▸ sPF p s hp hs n (i + 1) f1 u1 w h1 (by omega))
              have h2' : parseF p n (s.data.toList.drop (s.size - u1.length)) = some (f2, u2) := by rw [← e2]; exact h2
              have IH2 := Lib.hid (fun w => hcast2 ▸ sPF p s hp hs n (s.size - u1.length) f2 u2 w h2' (by omega))
              have hcs : c = 43 ∨ c = 42 := by simpa [signB] using hsg
              have hpr := @pfF_pair p (kindB c) f1 f2
              have hpn := @pfF_none p (kindB c) f1 f2
              obtain ⟨Z, hZ⟩ : ∃ Z, Z = pfF p (.pair (kindB c) f1 f2) := ⟨_, rfl⟩
              rw [← hZ] at hpr hpn ⊢
              obtain ⟨⟨A, a⟩, hA⟩ : ∃ A, A = pfF p f1 := ⟨_, rfl⟩
              obtain ⟨⟨B, b⟩, hB⟩ : ∃ A, A = pfF p f2 := ⟨_, rfl⟩
              obtain ⟨j, hj⟩ : ∃ j : Int, j = (s.size : Int) - u1.length := ⟨_, rfl⟩
              obtain ⟨k, hk⟩ : ∃ k : Int, k = (s.size : Int) - u2.length := ⟨_, rfl⟩
              rw [← hA] at IH1 hpr hpn
              rw [← hB] at IH2 hpr hpn
              rw [← hj] at IH1 IH2
              rw [← hk] at IH2 ⊢
              simp only at IH1 IH2 hpr hpn
              clear hdr hc hlen h1 h2 h2' e1 l1 e2 hcast hcast2 hA hB hj hk hsg hZ
              have n43 : c = 42 → (((c.toNat : Nat) : Int) == 43) = false := by rintro rfl; rfl
              cases hab : (a && b)
              · have hz : Z = ([], false) := hpn (by cases a <;> cases b <;> simp at hab ⊢)
                have hz2 : (!a || !b) = true := by cases a <;> cases b <;> simp at hab ⊢
                have HAB := Lib.hid hab
                subst hz
                clear hpr hpn n43 hab
                go_enter Tryz.func25, Tryz.ntmps25
                rcases hcs with rfl | rfl
                all_goals
                  first | rw [show (((43 : UInt8).toNat : Nat) : Int) = 43 from rfl] at hcn | rw [show (((42 : UInt8).toNat : Nat) : Int) = 42 from rfl] at hcn
                  go_wp2_with fail
                  refine (IH1.out _).mono ?_
                  rintro e w1 ⟨v1, rfl, ho1, hb1⟩
                  have HB1 := Lib.hid hb1
                  obtain ⟨_, a1, k1, rfl, _⟩ := ho1
                  clear hb1
                  go_wp2_with fail
                  refine (IH2.out _).mono ?_
                  rintro e w2 ⟨v2, rfl, ho2, hb2⟩
                  have HB2 := Lib.hid (HB1.out.trans (hb2.mono HB1.out.size))
                  obtain ⟨_, a2, k2, rfl, _⟩ := ho2
                  clear hb2
                  cases a <;> cases b <;> first | (exact absurd HAB.out (by decide)) | skip
                  all_goals
                    clear HAB hz2
                    go_wp2_with fail
                    refine bodyPost_ret (v := .tuple #[.slice (some ⟨w2.heap.size, 0, none⟩) 0 0, .int .i64 k, .bool false]) (by simp [results, Tryz.results25, go_sem]) rfl ?_
                    exact ⟨_, rfl, (Row.lit0 w2 w.heap.size HB2.out.size).own (by simp), Below.alloc HB2.out HB2.out.size _⟩
              · have ha : a = true := by cases a <;> simp_all
                have hb : b = true := by cases b <;> simp_all
                subst ha hb
                have hz := hpr rfl rfl
                clear hpr hpn hab
                have HAD := Lib.hid (fun u v w' (h1 : Trms w' u A) (h2 : Trms w' v B) => sAddPoly p u v A B w' h1 h2)
                have HMU := Lib.hid (fun u v w' (h1 : Trms w' u A) (h2 : Trms w' v B) => sMulPoly p u v A B w' h1 h2)
                rcases hcs with rfl | rfl
                · rw [show kindB 43 = 2 from rfl, if_pos rfl, if_pos rfl] at hz
                  subst hz
                  obtain ⟨R, hR⟩ : ∃ R, R = sumV p A B := ⟨_, rfl⟩
                  obtain ⟨r, hr⟩ : ∃ r, r = addOk p A B := ⟨_, rfl⟩
                  rw [← hR, ← hr] at HAD ⊢
                  rw [show (((43 : UInt8).toNat : Nat) : Int) = 43 from rfl] at hcn
                  clear hR hr HMU n43
                  go_enter Tryz.func25, Tryz.ntmps25
                  go_wp2_with fail
                  refine (IH1.out _).mono ?_
                  rintro e w1 ⟨v1, rfl, ho1, hb1⟩
                  have HB1 := Lib.hid (And.intro hb1 ho1.trms)
                  obtain ⟨_, a1, k1, rfl, _⟩ := ho1
                  clear hb1
                  go_wp2_with fail
                  refine (IH2.out _).mono ?_
                  rintro e w2 ⟨v2, rfl, ho2, hb2⟩
                  have HB2 := Lib.hid (And.intro (HB1.out.1.trans (hb2.mono HB1.out.1.size)) (And.intro (HB1.out.2.below hb2) ho2.trms))
                  obtain ⟨_, a2, k2, rfl, _⟩ := ho2
                  clear hb2
                  go_wp2_with fail
                  refine (HAD.out _ _ _ HB2.out.2.1 HB2.out.2.2).mono ?_
                  rintro e w3 ⟨v3, rfl, ho3, hb3⟩
                  have HB3 := Lib.hid (And.intro (ownT_low ho3 HB2.out.1.size) (HB2.out.1.trans (hb3.mono HB2.out.1.size)))
                  obtain ⟨_, a3, k3, rfl, _⟩ := ho3
                  clear hb3
                  go_wp2_with fail
                  refine bodyPost_ret (v := .tuple #[.slice a3 R.length k3, .int .i64 k, .bool r]) (by simp [results, Tryz.results25, go_sem]) rfl ?_
                  exact ⟨_, rfl, HB3.out.1, HB3.out.2⟩
                · rw [show kindB 42 = 3 from rfl, if_neg (by decide), if_neg (by decide)] at hz
                  subst hz
                  obtain ⟨R, hR⟩ : ∃ R, R = mulL p A B := ⟨_, rfl⟩
                  obtain ⟨r, hr⟩ : ∃ r, r = mulOk p A B := ⟨_, rfl⟩
                  rw [← hR, ← hr] at HMU ⊢
                  rw [show (((42 : UInt8).toNat : Nat) : Int) = 42 from rfl] at hcn
                  clear hR hr HAD n43
                  go_enter Tryz.func25, Tryz.ntmps25
                  go_wp2_with fail
                  refine (IH1.out _).mono ?_
                  rintro e w1 ⟨v1, rfl, ho1, hb1⟩
                  have HB1 := Lib.hid (And.intro hb1 ho1.trms)
                  obtain ⟨_, a1, k1, rfl, _⟩ := ho1
                  clear hb1
                  go_wp2_with fail
                  refine (IH2.out _).mono ?_
                  rintro e w2 ⟨v2, rfl, ho2, hb2⟩
                  have HB2 := Lib.hid (And.intro (HB1.out.1.trans (hb2.mono HB1.out.1.size)) (And.intro (HB1.out.2.below hb2) ho2.trms))
                  obtain ⟨_, a2, k2, rfl, _⟩ := ho2
                  clear hb2
                  go_wp2_with fail
                  refine (HMU.out _ _ _ HB2.out.2.1 HB2.out.2.2).mono ?_
                  rintro e w3 ⟨v3, rfl, ho3, hb3⟩
                  have HB3 := Lib.hid (And.intro (ownT_low ho3 HB2.out.1.size) (HB2.out.1.trans (hb3.mono HB2.out.1.size)))
                  obtain ⟨_, a3, k3, rfl, _⟩ := ho3
                  clear hb3
                  go_wp2_with fail
                  refine bodyPost_ret (v := .tuple #[.slice a3 R.length k3, .int .i64 k, .bool r]) (by simp [results, Tryz.results25, go_sem]) rfl ?_
                  exact ⟨_, rfl, HB3.out.1, HB3.out.2⟩
        · rename_i hsg
          cases h1 : leafB p c with
          | none => rw [h1] at hpf; simp at hpf
          | some r1 =>
            obtain ⟨k, a⟩ := r1
            rw [h1] at hpf
            simp at hpf
            obtain ⟨rfl, rfl⟩ := hpf
            have HG := Lib.hid (fun w => sGate4 p c k a w h1)
            have hpc := pc_one hp (leafB_ok h1)
            have HPC := Lib.hid (fun f w' (h : Gats w' f [⟨k, a, 0⟩]) => show Calls Tryz.prog 46 #[.int .i64 p, f] w' (GivesPB (if k = 0 then [onT a] else cnL a) true w') by
              rw [← hpc.1, ← hpc.2]
              exact sPolyOfCircuit p f _ w' h)
            have n43 : ¬ ((c.toNat : Nat) : Int) = 43 := byte_ne (b := 43) (fun e => by rw [e] at hsg; simp [signB] at hsg)
            have n42 : ¬ ((c.toNat : Nat) : Int) = 42 := byte_ne (b := 42) (fun e => by rw [e] at hsg; simp [signB] at hsg)
            have b43 : (((c.toNat : Nat) : Int) != 43) = true := bne_iff_ne.2 n43
            have b42 : (((c.toNat : Nat) : Int) != 42) = true := bne_iff_ne.2 n42
            have hend : (s.size : Int) - ((s.data.toList.drop (i + 1)).length : Nat) = (i : Int) + 1 := by rw [hlen]; omega
            rw [hend]
            show Calls _ _ _ _ (GivesPF (if k = 0 then [onT a] else cnL a) _ true w)
            obtain ⟨R, hR⟩ : ∃ R, R = (if k = 0 then [onT a] else cnL a) := ⟨_, rfl⟩
            rw [← hR] at HPC ⊢
            clear hdr hc hlen h1 hsg hend hR hpc
            go_enter Tryz.func25, Tryz.ntmps25
            go_wp2_with fail
            refine (HG.out _).mono ?_
            rintro e w1 ⟨rfl, hb1⟩
            have HB1 := Lib.hid hb1
            clear hb1
            go_wp2_with fail
            refine (HPC.out _ _ ?_).mono ?_
            · refine ⟨by simp, _, 1, rfl, .inr ⟨w1.heap.size, 0, rfl, by simp, fun j hj => ?_⟩⟩
              have : j = 0 := by simpa using hj
              subst this
              refine ⟨?_, ?_, ?_⟩ <;> simp [go_sem]
            rintro e w3 ⟨v3, rfl, ho3, hb3⟩
            have HB3 := Lib.hid (show OwnTrms w3 w.heap.size v3 R ∧ Below w.heap.size w w3 from ⟨ownT_low ho3 (by have := HB1.out.size; simp; omega), (Below.alloc HB1.out HB1.out.size _).trans (hb3.mono (by have := HB1.out.size; simp; omega))⟩)
            obtain ⟨_, a3, k3, rfl, _⟩ := ho3
            clear hb3
            go_wp2_with fail
            refine bodyPost_ret (v := .tuple #[.slice a3 R.length k3, .int .i64 ((i : Int) + 1), .bool true]) (by simp [results, Tryz.results25, go_sem]) rfl ?_
            exact ⟨_, rfl, HB3.out.1, HB3.out.2⟩
    · rw [List.drop_eq_nil_of_le (by omega)] at hpf
      cases n <;> simp [parseF] at hpf
termination_by n _ _ _ => n
end Go.Proofs.YtoeghbcolpailaaGreat
namespace Go.Proofs.YtoeghbcolpailaaGreat
open Go.RowKit
/-- what PolyOfFormula returns -/
def pffV (p : Int) (s : ByteArray) : List Trm := match foF p s with
  | none => []
  | some f => (pfF p f).1
def pffB (p : Int) (s : ByteArray) : Bool := match foF p s with
  | none => false
  | some f => (pfF p f).2
theorem pfF_len (p : Int) : ∀ f : Fm, (pfF p f).1.length ≤ 60
  | .leaf k a => by
    show (if k = 0 then [onT a] else cnL a).length ≤ 60
    unfold cnL
    repeat' split
    all_goals simp
  | .pair k f g => by
    show (if _ then _ else _ : List Trm × Bool).1.length ≤ 60
    split
    · show (if k = 2 then _ else _ : List Trm).length ≤ 60
      split
      · exact sumV_len
      · exact mulL_len
    · simp
set_option maxRecDepth 100000 in
set_option maxHeartbeats 4000000 in
theorem sPolyOfFormula (p : Int) (s : ByteArray) (w : World) :
    Calls Tryz.prog 10 #[.int .i64 p, .string s] w (GivesPB (pffV p s) (pffB p s) w) := by
  have HF := Lib.hid (sFormulaValid p s)
  cases h : foF p s with
  | none =>
    have e : pffV p s = [] ∧ pffB p s = false := by unfold pffV pffB; rw [h]; exact ⟨rfl, rfl⟩
    have e2 : fokB p s = false := by rw [fokB_some, h]; rfl
    rw [e.1, e.2]
    rw [e2] at HF
    clear h e e2
    go_enter Tryz.func10, Tryz.ntmps10
    go_wp2_with fail
    refine (HF.out _).mono ?_
    rintro e w1 ⟨rfl, hb1⟩
    have HB := Lib.hid hb1
    clear hb1
    go_wp2_with fail
    refine bodyPost_ret (results_tmp2 rfl _ _ _) rfl ?_
    exact ⟨_, rfl, (Row.lit0 w1 w.heap.size HB.out.size).own (by simp), Below.alloc HB.out HB.out.size _⟩
  | some f =>
    have e2 : fokB p s = true := by rw [fokB_some, h]; rfl
    rw [e2] at HF
    obtain ⟨hp, hs, hf⟩ := foF_some h
    have e : pffV p s = (pfF p f).1 ∧ pffB p s = (pfF p f).2 := by unfold pffV pffB; rw [h]; exact ⟨rfl, rfl⟩
    rw [e.1, e.2]
    have hw : parseF p s.size (s.data.toList.drop 0) = some (f, []) := by
      unfold formF at hf
      rw [Array.length_toList] at hf
      rw [List.drop_zero]
      show parseF p s.data.size _ = _
      cases h1 : parseF p s.data.size s.data.toList with
      | none => rw [h1] at hf; simp at hf
      | some r =>
        obtain ⟨g, u⟩ := r
        rw [h1] at hf
        cases u with
        | nil => simp at hf; rw [hf]
        | cons c u => simp at hf
    have HV := Lib.hid (fun w => sPF p s hp (by omega) s.size 0 f [] w hw (by omega))
    obtain ⟨R, hR⟩ : ∃ R, R = (pfF p f).1 := ⟨_, rfl⟩
    obtain ⟨r, hr⟩ : ∃ r, r = (pfF p f).2 := ⟨_, rfl⟩
    obtain ⟨k, hk⟩ : ∃ k : Int, k = (s.size : Int) - (([] : List UInt8).length : Nat) := ⟨_, rfl⟩
    rw [← hR, ← hr, ← hk] at HV
    rw [← hR, ← hr]
    clear h e e2 hf hp hw hr hk hR
    go_enter Tryz.func10, Tryz.ntmps10
    go_wp2_with fail
    refine (HF.out _).mono ?_
    rintro e w1 ⟨rfl, hb1⟩
    have HB := Lib.hid hb1
    clear hb1
    go_wp2_with fail
    refine (HV.out _).mono ?_
    rintro e w2 ⟨v2, rfl, ho2, hb2⟩
    have HB2 := Lib.hid (And.intro (ownT_low ho2 HB.out.size) (HB.out.trans (hb2.mono HB.out.size)))
    obtain ⟨_, a2, k2, rfl, _⟩ := ho2
    clear hb2
    go_wp2_with fail
    refine bodyPost_ret (results_tmp2 rfl _ _ _) rfl ?_
    exact ⟨_, rfl, HB2.out.1, HB2.out.2⟩
set_option maxRecDepth 100000 in
set_option maxHeartbeats 4000000 in
theorem iExpNil (p : Int) (w : World) : Calls Tryz.prog 24 #[.int .i64 p, .nilIface] w (GivesPB [] false w) := by
  go_enter Tryz.func24, Tryz.ntmps24
  go_wp2_with fail
  refine bodyPost_ret (results_tmp2 rfl _ _ _) rfl ?_
  exact ⟨_, rfl, (Row.nil w w.heap.size).own (by simp), Below.refl _ _⟩
set_option maxRecDepth 100000 in
set_option maxHeartbeats 8000000 in
theorem iExp (p : Int) (hp : isP p = true) : ∀ (f : Fm) (w : World), okF p f →
    Calls Tryz.prog 24 #[.int .i64 p, fmV f] w (GivesPB (pfF p f).1 (pfF p f).2 w)
  | .leaf k a, w, hok => by
    show Calls Tryz.prog 24 #[.int .i64 p, .iface 73 (.agg #[.int .i64 k, .int .i64 a, .int .i64 0])] w (GivesPB (if k = 0 then [onT a] else cnL a) true w)
    have HG := Lib.hid (fun w => show Calls Tryz.prog 45 #[.agg #[.int .i64 k, .int .i64 a, .int .i64 0], .int .i64 p, .slice none 0 0] w (GivesPB (if k = 0 then [onT a] else cnL a) true w) by
      rcases hok with ⟨rfl, ha⟩ | ⟨rfl, ha⟩
      · rw [if_pos rfl]
        exact iGPoly0 p a 0 ha none 0 0 w
      · rw [if_neg (by decide)]
        exact iGPoly1 p a 0 hp ha none 0 0 w)
    obtain ⟨R, hR⟩ : ∃ R, R = (if k = 0 then [onT a] else cnL a) := ⟨_, rfl⟩
    rw [← hR] at HG ⊢
    clear hok hR
    go_enter Tryz.func24, Tryz.ntmps24
    go_wp2_with fail
    refine (HG.out _).mono ?_
    rintro e w2 ⟨v2, rfl, ho2, hb2⟩
    have HB2 := Lib.hid (show OwnTrms w2 w.heap.size v2 R ∧ Below w.heap.size w w2 from ⟨ownT_low ho2 (by simp), (Below.alloc (Below.refl _ _) (Nat.le_refl _) _).trans (hb2.mono (by simp))⟩)
    obtain ⟨_, a2, k2, rfl, _⟩ := ho2
    clear hb2
    go_wp2_with fail
    refine bodyPost_ret (results_tmp2 rfl _ _ _) rfl ?_
    exact ⟨_, rfl, HB2.out.1, HB2.out.2⟩
  | .pair k f g, w, hok => by
    obtain ⟨hk, hof, hog⟩ := hok
    have IF := Lib.hid (fun w => iExp p hp f w hof)
    have IG := Lib.hid (fun w => iExp p hp g w hog)
    have hpr := @pfF_pair p k f g
    have hpn := @pfF_none p k f g
    show Calls Tryz.prog 24 #[.int .i64 p, .iface 76 (.agg #[.int .i64 k, fmV f, fmV g])] w (GivesPB (pfF p (.pair k f g)).1 (pfF p (.pair k f g)).2 w)
    obtain ⟨Z, hZ⟩ : ∃ Z, Z = pfF p (.pair k f g) := ⟨_, rfl⟩
    rw [← hZ] at hpr hpn ⊢
    obtain ⟨⟨A, a⟩, hA⟩ : ∃ A, A = pfF p f := ⟨_, rfl⟩
    obtain ⟨⟨B, b⟩, hB⟩ : ∃ A, A = pfF p g := ⟨_, rfl⟩
    rw [← hA] at IF hpr hpn
    rw [← hB] at IG hpr hpn
    simp only at IF IG hpr hpn
    obtain ⟨ft, fv, hfe⟩ := fmV_is f
    obtain ⟨gt, gv, hge⟩ := fmV_is g
    have HO := Lib.hid (And.intro (fmV_one' f hfe) (fmV_one' g hge))
    rw [hfe] at IF ⊢
    rw [hge] at IG ⊢
    have hAl : A.length ≤ 60 := by have := pfF_len p f; rw [← hA] at this; exact this
    have hBl : B.length ≤ 60 := by have := pfF_len p g; rw [← hB] at this; exact this
    clear hZ hA hB hfe hge hof hog
    obtain ⟨W, hW⟩ : ∃ W, W = w.alloc (Obj.cells #[.int .i64 k, .iface ft fv, .iface gt gv] 76) := ⟨_, rfl⟩
    have HC := Lib.hid (fun w' (hb : Below W.heap.size W w') => show w'.cell? ⟨w.heap.size, 0, none⟩ = some (.int .i64 k) ∧ w'.cell? ⟨w.heap.size, 1, none⟩ = some (.iface ft fv) ∧ w'.cell? ⟨w.heap.size, 2, none⟩ = some (.iface gt gv) ∧ Below w.heap.size w w' by
      have hs : w.heap.size < W.heap.size := by rw [hW]; simp
      refine ⟨?_, ?_, ?_, (show Below w.heap.size w W by rw [hW]; exact Below.alloc (Below.refl _ _) (Nat.le_refl _) _).trans (hb.mono (by omega))⟩
      · rw [hb.cell (p := ⟨w.heap.size, 0, none⟩) hs, hW]; simp [go_sem]
      · rw [hb.cell (p := ⟨w.heap.size, 1, none⟩) hs, hW]; simp [go_sem]
      · rw [hb.cell (p := ⟨w.heap.size, 2, none⟩) hs, hW]; simp [go_sem])
    have HW := Lib.hid hW
    obtain ⟨c0, c1, c2, -⟩ := HC.out W (Below.refl _ _)
    clear hW
    cases hab : (a && b)
    · have hz : Z = ([], false) := hpn (by cases a <;> cases b <;> simp at hab ⊢)
      have HAB := Lib.hid hab
      subst hz
      clear hpr hpn hab
      go_enter Tryz.func24, Tryz.ntmps24
      go_wp2_with fail
      rw [← HW.out]
      refine (IF.out _).mono ?_
      rintro e w1 ⟨v1, rfl, ho1, hb1⟩
      have HB1 := Lib.hid hb1
      obtain ⟨_, a1, k1, rfl, _⟩ := ho1
      clear hb1 c0 c1 c2
      obtain ⟨c0, c1, c2, -⟩ := HC.out w1 HB1.out
      go_wp2_with fail
      refine (IG.out _).mono ?_
      rintro e w2 ⟨v2, rfl, ho2, hb2⟩
      have HB2 := Lib.hid (HB1.out.trans (hb2.mono HB1.out.size))
      obtain ⟨_, a2, k2, rfl, _⟩ := ho2
      clear hb2 c0 c1 c2
      obtain ⟨c0, c1, c2, hlow⟩ := HC.out w2 HB2.out
      have HQ := Lib.hid hlow
      clear hlow
      cases a <;> cases b <;> first | (exact absurd HAB.out (by decide)) | skip
      all_goals
        clear HAB
        go_wp2_with fail
        refine bodyPost_ret (results_tmp2 rfl _ _ _) rfl ?_
        exact ⟨_, rfl, (Row.nil w2 w.heap.size).own (by simp), HQ.out⟩
    · have ha : a = true := by cases a <;> simp_all
      have hb : b = true := by cases b <;> simp_all
      subst ha hb
      have hz := hpr rfl rfl
      clear hpr hpn hab
      have HG := Lib.hid (fun (g0 cap : Nat) u v w' (hg : g0 < w'.heap.size) (h0 : w'.cell? ⟨g0, 0, none⟩ = some u) (h1 : w'.cell? ⟨g0, 1, none⟩ = some v) (hu : Trms w' u A) (hv : Trms w' v B) =>
        show Calls Tryz.prog 45 #[.agg #[.int .i64 k, .int .i64 0, .int .i64 1], .int .i64 p, .slice (some ⟨g0, 0, none⟩) 2 cap] w' (GivesPB Z.1 Z.2 w') by
          rw [hz]
          exact iGPoly2 p k hk 0 1 2 (by omega) (by omega) (by omega) g0 cap u v A B w' hg h0 h1 hu hv)
      obtain ⟨R, r⟩ := Z
      simp only at HG ⊢
      clear hz hk
      go_enter Tryz.func24, Tryz.ntmps24
      go_wp2_with fail
      rw [← HW.out]
      refine (IF.out _).mono ?_
      rintro e w1 ⟨v1, rfl, ho1, hb1⟩
      have HB1 := Lib.hid (And.intro hb1 ho1.trms)
      obtain ⟨_, a1, k1, rfl, _⟩ := ho1
      clear hb1 c0 c1 c2
      obtain ⟨c0, c1, c2, -⟩ := HC.out w1 HB1.out.1
      go_wp2_with fail
      refine (IG.out _).mono ?_
      rintro e w2 ⟨v2, rfl, ho2, hb2⟩
      have HB2 := Lib.hid (And.intro (HB1.out.1.trans (hb2.mono HB1.out.1.size)) (And.intro (HB1.out.2.below hb2) ho2.trms))
      obtain ⟨_, a2, k2, rfl, _⟩ := ho2
      clear hb2 c0 c1 c2
      obtain ⟨c0, c1, c2, hlow⟩ := HC.out w2 HB2.out.1
      have HQ := Lib.hid hlow
      clear hlow
      go_wp2_with fail
      refine (iPairGate k _ _ HO.out.1 HO.out.2 _).mono ?_
      rintro e w3 ⟨rfl, hb3⟩
      have HB3 := Lib.hid (And.intro (HQ.out.trans (hb3.mono HQ.out.size)) (And.intro (HB2.out.2.1.below hb3) (HB2.out.2.2.below hb3)))
      clear hb3 c0 c1 c2
      go_wp2_with fail
      have hbn : Below w3.heap.size w3 (w3.alloc (Obj.cells #[.slice a1 A.length k1, .slice a2 B.length k2] 29)) := Below.alloc (Below.refl _ _) (Nat.le_refl _) _
      refine (HG.out w3.heap.size 2 _ _ _ (by simp) (by simp [go_sem]; done) (by simp [go_sem]; done) (HB3.out.2.1.below hbn) (HB3.out.2.2.below hbn)).mono ?_
      rintro e w4 ⟨v4, rfl, ho4, hb4⟩
      have HB4 := Lib.hid (show OwnTrms w4 w.heap.size v4 R ∧ Below w.heap.size w w4 from ⟨ownT_low ho4 (by have := HB3.out.1.size; simp; omega), HB3.out.1.trans ((hbn.mono HB3.out.1.size).trans (hb4.mono (by have := HB3.out.1.size; simp; omega)))⟩)
      obtain ⟨_, a4, k4, rfl, _⟩ := ho4
      clear hb4 hbn
      go_wp2_with fail
      refine bodyPost_ret (results_tmp2 rfl _ _ _) rfl ?_
      exact ⟨_, rfl, HB4.out.1, HB4.out.2⟩
set_option maxRecDepth 100000 in
set_option maxHeartbeats 4000000 in
theorem iPolyOfFormula (p : Int) (s : ByteArray) (w : World) :
    Calls Tryz.prog 9 #[.int .i64 p, .string s] w (GivesPB (pffV p s) (pffB p s) w) := by
  have HF := Lib.hid (iFormulaOf p s)
  have HV := Lib.hid (fun w => show Calls Tryz.prog 24 #[.int .i64 p, optV (foF p s)] w (GivesPB (pffV p s) (pffB p s) w) by
    unfold pffV pffB
    cases h : foF p s with
    | none => exact iExpNil p w
    | some f => exact iExp p (foF_some h).1 f w (formF_ok (foF_some h).2.2))
  obtain ⟨u, hu⟩ : ∃ u, u = optV (foF p s) := ⟨_, rfl⟩
  obtain ⟨R, hR⟩ : ∃ R, R = pffV p s := ⟨_, rfl⟩
  obtain ⟨r, hr⟩ : ∃ r, r = pffB p s := ⟨_, rfl⟩
  rw [← hu] at HF HV
  rw [← hR, ← hr] at HV ⊢
  clear hu hR hr
  go_enter Tryz.func9, Tryz.ntmps9
  go_wp2_with fail
  refine (HF.out _).mono ?_
  rintro e w1 ⟨rfl, hb1⟩
  have HB := Lib.hid hb1
  clear hb1
  go_wp2_with fail
  refine (HV.out _).mono ?_
  rintro e w2 ⟨v2, rfl, ho2, hb2⟩
  have HB2 := Lib.hid (And.intro (ownT_low ho2 HB.out.size) (HB.out.trans (hb2.mono HB.out.size)))
  obtain ⟨_, a2, k2, rfl, _⟩ := ho2
  clear hb2
  go_wp2_with fail
  refine bodyPost_ret (results_tmp2 rfl _ _ _) rfl ?_
  exact ⟨_, rfl, HB2.out.1, HB2.out.2⟩
end Go.Proofs.YtoeghbcolpailaaGreat
namespace Go.Proofs.YtoeghbcolpailaaGreat
open Go.RowKit
/-- the trees of the first k gates -/
def trF (L : List Gt) : Nat → Nat → Fm
  | 0, _ => .leaf 0 0
  | k + 1, j => if j = k then (if joinsB (gAt L k) = true then .pair (gAt L k).k (trF L k (gAt L k).a.toNat) (trF L k (gAt L k).b.toNat) else .leaf (gAt L k).k (gAt L k).a) else trF L k j
def tr (L : List Gt) (j : Nat) : Fm := trF L (j + 1) j
theorem trF_st (L : List Gt) (j : Nat) : ∀ k, j < k → trF L k j = tr L j
  | 0, h => by omega
  | k + 1, h => by
    by_cases e : j = k
    · subst e; rfl
    · show (if j = k then _ else trF L k j) = _
      rw [if_neg e]
      exact trF_st L j k (by omega)
theorem tr_join {L : List Gt} {j : Nat} (hg : joinsB (gAt L j) = true) (ha : (gAt L j).a.toNat < j) (hb : (gAt L j).b.toNat < j) : tr L j = .pair (gAt L j).k (tr L (gAt L j).a.toNat) (tr L (gAt L j).b.toNat) := by
  show (if j = j then _ else _) = _
  rw [if_pos rfl, if_pos hg, trF_st L _ j ha, trF_st L _ j hb]
theorem tr_leaf {L : List Gt} {j : Nat} (hg : joinsB (gAt L j) = false) : tr L j = .leaf (gAt L j).k (gAt L j).a := by
  show (if j = j then _ else _) = _
  rw [if_pos rfl, if_neg (by simp [hg])]
/-! the text is read as the tree -/
theorem ltr_read {p a : Int} (h0 : 0 ≤ a) (h1 : a ≤ 2) (n : Nat) (rest : List UInt8) : parseF p (n + 1) ((ltrS a).data.toList ++ rest) = some (.leaf 0 a, rest) := by
  have : a = 0 ∨ a = 1 ∨ a = 2 := by omega
  rcases this with rfl | rfl | rfl <;> rfl
theorem dgt_read {p a : Int} (h0 : 0 ≤ a) (h1 : a ≤ 12) (hp : a < p) (n : Nat) (rest : List UInt8) : parseF p (n + 1) ((dgtS a).data.toList ++ rest) = some (.leaf 1 a, rest) := by
  have key : ∀ (c : UInt8) (a : Int), (dgtS a).data.toList = [c] → signB c = false → ¬ 0 ≤ Lib.indexByte letB c → Lib.indexByte digB c = a → 0 ≤ a → a < p → parseF p (n + 1) ((dgtS a).data.toList ++ rest) = some (.leaf 1 a, rest) := by
    intro c a e1 e2 e3 e4 e5 e6
    rw [e1]
    show parseF p (n + 1) (c :: rest) = _
    unfold parseF
    rw [if_neg (by rw [e2]; decide)]
    unfold leafB
    rw [if_neg e3, e4, if_pos ⟨e5, e6⟩]
  have : a = 0 ∨ a = 1 ∨ a = 2 ∨ a = 3 ∨ a = 4 ∨ a = 5 ∨ a = 6 ∨ a = 7 ∨ a = 8 ∨ a = 9 ∨ a = 10 ∨ a = 11 ∨ a = 12 := by omega
  rcases this with rfl | rfl | rfl | rfl | rfl | rfl | rfl | rfl | rfl | rfl | rfl | rfl | rfl
  · exact key 48 _ rfl rfl (by decide) rfl (by decide) hp
  · exact key 49 _ rfl rfl (by decide) rfl (by decide) hp
  · exact key 50 _ rfl rfl (by decide) rfl (by decide) hp
  · exact key 51 _ rfl rfl (by decide) rfl (by decide) hp
  · exact key 52 _ rfl rfl (by decide) rfl (by decide) hp
  · exact key 53 _ rfl rfl (by decide) rfl (by decide) hp
  · exact key 54 _ rfl rfl (by decide) rfl (by decide) hp
  · exact key 55 _ rfl rfl (by decide) rfl (by decide) hp
  · exact key 56 _ rfl rfl (by decide) rfl (by decide) hp
  · exact key 57 _ rfl rfl (by decide) rfl (by decide) hp
  · exact key 65 _ rfl rfl (by decide) rfl (by decide) hp
  · exact key 66 _ rfl rfl (by decide) rfl (by decide) hp
  · exact key 67 _ rfl rfl (by decide) rfl (by decide) hp
theorem tx_read {p : Int} {L : List Gt} (hv : circB p L = true) : ∀ d j, j < d → j < L.length → ∀ (n : Nat) (rest : List UInt8), (tx L j).data.toList.length ≤ n → parseF p n ((tx L j).data.toList ++ rest) = some (tr L j, rest)
  | 0, j, h, _, _, _, _ => by omega
  | d + 1, j, h, hj, n, rest, hn => by
    have hc := gOK_cases ((circB_iff.1 hv).2.2.2 j hj)
    cases hg : joinsB (gAt L j)
    · rw [tr_leaf hg]
      rcases tx_leaf hv hj hg with ⟨hk, e, h0, h1⟩ | ⟨hk, e, h0, h1⟩
      · have hs := ltrS_size h0 h1
        have hs2 : (ltrS (gAt L j).a).data.toList.length = 1 := by rw [Array.length_toList]; exact hs
        rw [e] at hn ⊢
        rw [hk]
        obtain ⟨m, rfl⟩ : ∃ m, n = m + 1 := ⟨n - 1, by omega⟩
        exact ltr_read h0 h1 m rest
      · have hs := dgtS_size h0 h1
        have hs2 : (dgtS (gAt L j).a).data.toList.length = 1 := by rw [Array.length_toList]; exact hs
        rw [e] at hn ⊢
        rw [hk]
        obtain ⟨m, rfl⟩ : ∃ m, n = m + 1 := ⟨n - 1, by omega⟩
        exact dgt_read h0 h1 (by omega) m rest
    · obtain ⟨e, ha, hb⟩ := tx_join hv hj hg
      have hk : (gAt L j).k = 2 ∨ (gAt L j).k = 3 := by simpa [joinsB] using hg
      obtain ⟨c, hc1, hc2, hc3⟩ : ∃ c : UInt8, (sgS (gAt L j).k).data.toList = [c] ∧ signB c = true ∧ kindB c = (gAt L j).k := by
        rcases hk with h | h
        · exact ⟨43, by rw [h]; rfl, rfl, by rw [h]; rfl⟩
        · exact ⟨42, by rw [h]; rfl, rfl, by rw [h]; rfl⟩
      have ed : (tx L j).data.toList = c :: ((tx L (gAt L j).a.toNat).data.toList ++ (tx L (gAt L j).b.toNat).data.toList) := by
        rw [e]
        simp only [ByteArray.data_append, Array.toList_append, hc1]
        rfl
      rw [ed] at hn ⊢
      simp only [List.length_cons, List.length_append] at hn
      obtain ⟨m, rfl⟩ : ∃ m, n = m + 1 := ⟨n - 1, by omega⟩
      have ra := tx_read hv d (gAt L j).a.toNat (by omega) (by omega) m ((tx L (gAt L j).b.toNat).data.toList ++ rest) (by omega)
      have rb := tx_read hv d (gAt L j).b.toNat (by omega) (by omega) m rest (by omega)
      rw [tr_join hg ha hb]
      show parseF p (m + 1) (c :: (((tx L (gAt L j).a.toNat).data.toList ++ (tx L (gAt L j).b.toNat).data.toList) ++ rest)) = _
      unfold parseF
      rw [if_pos hc2, List.append_assoc, ra]
      simp only
      rw [rb, hc3]
theorem fo_is {p : Int} {L : List Gt} (hv : circB p L = true) (hz : szAt L (L.length - 1) ≤ 60) : foF p (tx L (L.length - 1)) = some (tr L (L.length - 1)) ∧ ((tx L (L.length - 1)).size : Int) = szAt L (L.length - 1) := by
  have hl := (circB_iff.1 hv).2.1
  have hs := tx_size hv (L.length - 1) (by omega) (by omega)
  refine ⟨?_, hs⟩
  unfold foF
  rw [if_pos ⟨(circB_iff.1 hv).1, by omega⟩]
  unfold formF
  have := tx_read hv L.length (L.length - 1) (by omega) (by omega) _ [] (Nat.le_refl _)
  rw [List.append_nil] at this
  rw [this]
/-! polynomials -/
theorem pf_is {p : Int} {L : List Gt} (hv : circB p L = true) : ∀ d j, j < d → j < L.length → (pfF p (tr L j)).2 = true → (pfF p (tr L j)).1 = pcP p L j ∧ pcO p L j = true
  | 0, j, h, _, _ => by omega
  | d + 1, j, h, hj, ho => by
    have hc := gOK_cases ((circB_iff.1 hv).2.2.2 j hj)
    cases hg : joinsB (gAt L j)
    · rw [tr_leaf hg]
      have hk : ¬ ((gAt L j).k = 2 ∨ (gAt L j).k = 3) := fun h2 => by
        have : joinsB (gAt L j) = true := by simpa [joinsB] using h2
        rw [hg] at this; cases this
      rcases hc with h | h | h
      · have := pcP_in (p := p) h.1
        refine ⟨?_, this.2⟩
        rw [this.1]
        show (if (gAt L j).k = 0 then _ else _) = _
        rw [if_pos h.1]
      · have := pcP_cn (p := p) h.1
        refine ⟨?_, this.2⟩
        rw [this.1]
        show (if (gAt L j).k = 0 then _ else _) = _
        rw [if_neg (by omega)]
      · exact absurd h.1 hk
    · have hk : (gAt L j).k = 2 ∨ (gAt L j).k = 3 := by simpa [joinsB] using hg
      have ha : (gAt L j).a.toNat < j := by omega
      have hb : (gAt L j).b.toNat < j := by omega
      rw [tr_join hg ha hb] at ho ⊢
      cases h1 : (pfF p (tr L (gAt L j).a.toNat)).2
      · rw [pfF_none (.inl h1)] at ho; cases ho
      cases h2 : (pfF p (tr L (gAt L j).b.toNat)).2
      · rw [pfF_none (.inr h2)] at ho; cases ho
      have ia := pf_is hv d _ (by omega) (by omega) h1
      have ib := pf_is hv d _ (by omega) (by omega) h2
      rw [pfF_pair h1 h2, ia.1, ib.1] at ho ⊢
      rcases hk with h | h
      · have := pcP_sum hv hj h
        rw [this.1, this.2]
        simp only [h, if_true] at ho ⊢
        exact ⟨trivial, ho⟩
      · have := pcP_mul hv hj h
        rw [this.1, this.2]
        simp only [h, show ¬ (3 : Int) = 2 by decide, if_false] at ho ⊢
        exact ⟨trivial, ho⟩
theorem pf_down {p : Int} {L : List Gt} (hv : circB p L = true) (hl : (pfF p (tr L (L.length - 1))).2 = true) : ∀ d j, L.length ≤ j + d → j < L.length → useF L j = true → (pfF p (tr L j)).2 = true
  | 0, j, h1, h2, _ => by omega
  | d + 1, j, h1, h2, hu => by
    rcases use_why hu with h | ⟨i, hi, hui, hgi, hab⟩
    · rwa [show j = L.length - 1 by omega]
    · have hc := gOK_cases ((circB_iff.1 hv).2.2.2 i hi)
      have hk : (gAt L i).k = 2 ∨ (gAt L i).k = 3 := by simpa [joinsB] using hgi
      have ih := pf_down hv hl d i (by omega) hi hui
      rw [tr_join hgi (by omega) (by omega)] at ih
      cases h1 : (pfF p (tr L (gAt L i).a.toNat)).2
      · rw [pfF_none (.inl h1)] at ih; cases ih
      cases h2 : (pfF p (tr L (gAt L i).b.toNat)).2
      · rw [pfF_none (.inr h2)] at ih; cases ih
      rcases hab with h | h
      · rwa [show j = (gAt L i).a.toNat by omega]
      · rwa [show j = (gAt L i).b.toNat by omega]
theorem pf_up {p : Int} {L : List Gt} (hv : circB p L = true) (ho : ∀ j, j < L.length → useF L j = true → pcO p L j = true) : ∀ d j, j < d → j < L.length → useF L j = true → (pfF p (tr L j)).2 = true
  | 0, j, h, _, _ => by omega
  | d + 1, j, h, hj, hu => by
    have hc := gOK_cases ((circB_iff.1 hv).2.2.2 j hj)
    cases hg : joinsB (gAt L j)
    · rw [tr_leaf hg]; rfl
    · have hk : (gAt L j).k = 2 ∨ (gAt L j).k = 3 := by simpa [joinsB] using hg
      have ha : (gAt L j).a.toNat < j := by omega
      have hb : (gAt L j).b.toNat < j := by omega
      obtain ⟨ua, ub⟩ := use_closed hv hj hu hg
      have h1 := pf_up hv ho d _ (show (gAt L j).a.toNat < d by omega) (by omega) ua
      have h2 := pf_up hv ho d _ (show (gAt L j).b.toNat < d by omega) (by omega) ub
      have ia := pf_is hv L.length _ (by omega) (by omega) h1
      have ib := pf_is hv L.length _ (by omega) (by omega) h2
      have hoj := ho j hj hu
      rw [tr_join hg ha hb, pfF_pair h1 h2, ia.1, ib.1]
      rcases hk with h | h
      · have := pcP_sum hv hj h
        rw [this.2] at hoj
        simp only [h, if_true]
        exact hoj
      · have := pcP_mul hv hj h
        rw [this.2] at hoj
        simp only [h, show ¬ (3 : Int) = 2 by decide, if_false]
        exact hoj
theorem pfF_no {p : Int} : ∀ f : Fm, (pfF p f).2 = false → (pfF p f).1 = []
  | .leaf k a, h => by cases h
  | .pair k f g, h => by
    cases h1 : (pfF p f).2
    · rw [pfF_none (.inl h1)]
    cases h2 : (pfF p g).2
    · rw [pfF_none (.inr h2)]
    rw [pfF_pair h1 h2] at h ⊢
    by_cases hk : k = 2
    · simp only [hk, if_true] at h ⊢
      unfold sumV
      rw [if_neg (by rw [h]; decide)]
    · simp only [hk, if_false] at h ⊢
      unfold mulL
      rw [if_neg (by rw [h]; decide)]
theorem pf_whole {p : Int} {L : List Gt} (hv : circB p L = true) : (pfF p (tr L (L.length - 1))).2 = pcOk p L ∧ (pfF p (tr L (L.length - 1))).1 = pcV p L := by
  have hl := (circB_iff.1 hv).2.1
  cases h : (pfF p (tr L (L.length - 1))).2
  · have e : pcOk p L = false := by
      cases ho : pcOk p L
      · rfl
      · have := pf_up hv (fun j hj hu => by
          cases hc : pcO p L j
          · rw [pc_bad hj hu hc] at ho; cases ho
          · rfl) L.length (L.length - 1) (by omega) (by omega) (useF_last hv)
        rw [h] at this
        cases this
    exact ⟨e.symm, by rw [pfF_no _ h]; unfold pcV; rw [if_neg (by rw [e]; decide)]⟩
  · have e : pcOk p L = true := pc_good hv fun j hj hu => (pf_is hv L.length j hj hj (pf_down hv h L.length j (by omega) hj hu)).2
    exact ⟨e.symm, by rw [(pf_is hv L.length _ (by omega) (by omega) h).1]; unfold pcV; rw [if_pos e]⟩
/-! gates with sharing: no more than there were -/
def atF (D : List Gt) : Fm → Nat → Prop
  | .leaf k a, n => n < D.length ∧ gAt D n = ⟨k, a, 0⟩
  | .pair k f g, n => n < D.length ∧ ∃ u v : Nat, atF D f u ∧ atF D g v ∧ gAt D n = ⟨k, (u : Int), (v : Int)⟩
theorem atF_app {D E : List Gt} : ∀ {f : Fm} {n : Nat}, atF D f n → atF (D ++ E) f n
  | .leaf k a, n, h => ⟨by have := h.1; simp; omega, by rw [gAt_app h.1]; exact h.2⟩
  | .pair k f g, n, h => by
    obtain ⟨h1, u, v, h2, h3, h4⟩ := h
    exact ⟨by simp; omega, u, v, atF_app h2, atF_app h3, by rw [gAt_app h1]; exact h4⟩
def NoTwo (D : List Gt) : Prop := ∀ i j, i < D.length → j < D.length → gAt D i = gAt D j → i = j
theorem atF_lt {D : List Gt} : ∀ {f : Fm} {n : Nat}, atF D f n → n < D.length
  | .leaf _ _, _, h => h.1
  | .pair _ _ _, _, h => h.1
theorem atF_one {D : List Gt} (hD : NoTwo D) : ∀ {f : Fm} {n m : Nat}, atF D f n → atF D f m → n = m
  | .leaf k a, n, m, h, h' => hD n m h.1 h'.1 (h.2.trans h'.2.symm)
  | .pair k f g, n, m, h, h' => by
    obtain ⟨h1, u, v, h2, h3, h4⟩ := h
    obtain ⟨h1', u', v', h2', h3', h4'⟩ := h'
    rw [atF_one hD h2 h2', atF_one hD h3 h3'] at h4
    exact hD n m h1 h1' (h4.trans h4'.symm)
theorem ixG_at {x : Gt} : ∀ {C : List Gt} {k : Nat}, ixG x C = some k → gAt C k = x
  | [], k, h => by cases h
  | y :: r, k, h => by
    unfold ixG at h
    split at h
    · rename_i he
      injection h with h
      subst h
      exact (eqGt_iff.1 he).symm
    · cases e : ixG x r with
      | none => rw [e] at h; cases h
      | some n =>
        rw [e] at h
        have h : n + 1 = k := by simpa using h
        subst h
        exact (ixG_at (C := r) e : gAt r n = x)
theorem ixG_no {x : Gt} : ∀ {C : List Gt}, ixG x C = none → ∀ j, j < C.length → gAt C j ≠ x
  | [], _, j, hj => by simp at hj
  | y :: r, h, j, hj => by
    unfold ixG at h
    split at h
    · cases h
    · rename_i he
      have hr : ixG x r = none := by simpa using h
      cases j with
      | zero => exact fun e => he (eqGt_iff.2 (show x = y from e.symm))
      | succ j => exact (ixG_no hr j (by simpa using hj) : gAt r j ≠ x)
/-- what stands there: no gate twice, each the place of a gate's tree -/
structure Shd (L D : List Gt) : Prop where
  nt : NoTwo D
  cv : ∀ n, n < D.length → ∃ j, j < L.length ∧ atF D (tr L j) n
/-- a gate put where there is none like it -/
theorem shr_shd {L D : List Gt} (h : Shd L D) (x : Gt) {j : Nat} (hj : j < L.length) (ha : ∀ E n, n < E.length → gAt E n = x → (∃ F, E = D ++ F) → atF E (tr L j) n) : ∃ F, (shr x D).2 = D ++ F ∧ Shd L (D ++ F) ∧ atF (D ++ F) (tr L j) (shr x D).1 := by
  cases e : ixG x D with
  | some n =>
    rw [shr_hit e]
    refine ⟨[], by simp, by simpa using h, ?_⟩
    rw [List.append_nil]
    exact ha D n (ixG_lt e) (ixG_at e) ⟨[], by simp⟩
  | none =>
    rw [shr_new e]
    have hn := ixG_no e
    have hlen : (D ++ [x]).length = D.length + 1 := by rw [List.length_append]; rfl
    have hlast : gAt (D ++ [x]) D.length = x := gAt_end rfl
    have hat := ha (D ++ [x]) D.length (by omega) hlast ⟨[x], rfl⟩
    refine ⟨[x], rfl, ⟨fun i k hi hk he => ?_, fun n hn' => ?_⟩, hat⟩
    · by_cases h1 : i < D.length
      · by_cases h2 : k < D.length
        · rw [gAt_app h1, gAt_app h2] at he
          exact h.nt i k h1 h2 he
        · rw [gAt_app h1, show k = D.length by omega, hlast] at he
          exact absurd he (hn i h1)
      · by_cases h2 : k < D.length
        · rw [gAt_app h2, show i = D.length by omega, hlast] at he
          exact absurd he.symm (hn k h2)
        · omega
    · by_cases h1 : n < D.length
      · obtain ⟨i, hi, hi2⟩ := h.cv n h1
        exact ⟨i, hi, atF_app hi2⟩
      · rw [show n = D.length by omega]
        exact ⟨j, hj, hat⟩
theorem putF_shd {p : Int} {L : List Gt} (hv : circB p L = true) : ∀ d j, j < d → j < L.length → ∀ D, Shd L D → ∃ F, (putF (tr L j) D).2 = D ++ F ∧ Shd L (D ++ F) ∧ atF (D ++ F) (tr L j) (putF (tr L j) D).1
  | 0, j, h, _, _, _ => by omega
  | d + 1, j, h, hj, D, hD => by
    have hc := gOK_cases ((circB_iff.1 hv).2.2.2 j hj)
    cases hg : joinsB (gAt L j)
    · have e := tr_leaf hg
      have := shr_shd hD ⟨(gAt L j).k, (gAt L j).a, 0⟩ hj (fun E n h1 h2 _ => by rw [e]; exact ⟨h1, h2⟩)
      rw [e] at this ⊢
      exact this
    · have hk : (gAt L j).k = 2 ∨ (gAt L j).k = 3 := by simpa [joinsB] using hg
      have ha : (gAt L j).a.toNat < j := by omega
      have hb : (gAt L j).b.toNat < j := by omega
      have e := tr_join hg ha hb
      obtain ⟨F1, e1, s1, a1⟩ := putF_shd hv d _ (show (gAt L j).a.toNat < d by omega) (by omega) D hD
      obtain ⟨F2, e2, s2, a2⟩ := putF_shd hv d _ (show (gAt L j).b.toNat < d by omega) (by omega) (D ++ F1) s1
      rw [← e1] at e2 s2 a2
      obtain ⟨F3, e3, s3, a3⟩ := shr_shd s2 ⟨(gAt L j).k, ((putF (tr L (gAt L j).a.toNat) D).1 : Nat), ((putF (tr L (gAt L j).b.toNat) (putF (tr L (gAt L j).a.toNat) D).2).1 : Nat)⟩ hj (fun E n h1 h2 hE => by
        obtain ⟨F, rfl⟩ := hE
        rw [e]
        refine ⟨h1, _, _, ?_, atF_app a2, h2⟩
        have := atF_app (E := F2 ++ F) a1
        rwa [← e1, ← List.append_assoc] at this)
      rw [e]
      refine ⟨F1 ++ (F2 ++ F3), ?_, ?_, ?_⟩
      · show (shr _ _).2 = _
        rw [e2, e3, e1]
        simp only [List.append_assoc]
      · rw [e1] at s3
        simpa only [List.append_assoc] using s3
      · rw [e1] at a3
        show atF _ _ (shr _ _).1
        rw [e2, e1]
        rw [e] at a3
        simpa only [List.append_assoc] using a3
theorem pigeon : ∀ (m n : Nat) (φ : Nat → Nat), (∀ i, i < n → φ i < m) → (∀ i j, i < n → j < n → φ i = φ j → i = j) → n ≤ m
  | 0, n, φ, h, _ => by
    refine Classical.byContradiction fun hn => ?_
    have := h 0 (by omega)
    omega
  | m + 1, n, φ, h, hi => by
    by_cases he : ∃ i, i < n ∧ φ i = m
    · obtain ⟨i0, h0, h1⟩ := he
      have := pigeon m (n - 1) (fun i => φ (if i < i0 then i else i + 1)) (fun i hin => by
        show φ (if i < i0 then i else i + 1) < m
        have hlt : (if i < i0 then i else i + 1) < n := by split <;> omega
        have hne : (if i < i0 then i else i + 1) ≠ i0 := by split <;> omega
        have := h _ hlt
        have h2 : φ (if i < i0 then i else i + 1) ≠ m := fun e => hne (hi _ _ hlt h0 (e.trans h1.symm))
        omega) (fun i j h2 h3 h4 => by
        have := hi _ _ (show (if i < i0 then i else i + 1) < n by split <;> omega) (show (if j < i0 then j else j + 1) < n by split <;> omega) h4
        split at this <;> split at this <;> omega)
      omega
    · have := pigeon m n φ (fun i hin => by
        have h1 := h i hin
        have h2 : φ i ≠ m := fun e => he ⟨i, hin, e⟩
        omega) hi
      omega
theorem shd_len {L D : List Gt} (h : Shd L D) : D.length ≤ L.length := by
  refine pigeon L.length D.length (fun n => if hn : n < D.length then Classical.choose (h.cv n hn) else 0) (fun i hi => ?_) (fun i j hi hj e => ?_)
  · simp only [hi, dif_pos]
    exact (Classical.choose_spec (h.cv i hi)).1
  · simp only [hi, hj, dif_pos] at e
    have h1 := (Classical.choose_spec (h.cv i hi)).2
    have h2 := (Classical.choose_spec (h.cv j hj)).2
    rw [e] at h1
    exact atF_one h.nt h1 h2
/-- all that the law of FormulaOfCircuit asks -/
structure FocF (p : Int) (L : List Gt) (s : ByteArray) : Prop where
  sz : (s.size : Int) = sprV p L
  ok : pffB p s = pcOk p L
  po : pffV p s = pcV p L
  fo : (foF p s).isSome = true
  le : (cofV p s).length ≤ L.length
theorem focF {p : Int} {L : List Gt} (h : focB p L = true) : focS p L = tx L (L.length - 1) ∧ FocF p L (tx L (L.length - 1)) := by
  have e : focS p L = tx L (L.length - 1) := by unfold focS; rw [if_pos h]
  unfold focB at h
  simp only [Bool.and_eq_true, decide_eq_true_eq] at h
  obtain ⟨hv, hz⟩ := h
  have hl := (circB_iff.1 hv).2.1
  obtain ⟨f1, f2⟩ := fo_is hv hz
  have w := pf_whole hv
  refine ⟨e, by rw [f2, sprV_at hv], ?_, ?_, by rw [f1]; rfl, ?_⟩
  · unfold pffB; rw [f1]; exact w.1
  · unfold pffV; rw [f1]; exact w.2
  · unfold cofV
    rw [f1]
    obtain ⟨F, e1, s1, _⟩ := putF_shd hv L.length (L.length - 1) (by omega) (by omega) [] ⟨fun i j hi => by simp at hi, fun n hn => by simp at hn⟩
    show (putF (tr L (L.length - 1)) []).2.length ≤ L.length
    rw [e1]
    exact shd_len s1
end Go.Proofs.YtoeghbcolpailaaGreat
namespace Go.Proofs.YtoeghbcolpailaaGreat
open Go.RowKit
/-! a text and its tree -/
def txF : Fm → List UInt8
  | .leaf k a => if k = 0 then (ltrS a).data.toList else (dgtS a).data.toList
  | .pair k f g => (if k = 2 then 43 else 42) :: (txF f ++ txF g)
theorem leaf_txt {p : Int} {c : UInt8} {k a : Int} (h : leafB p c = some (k, a)) : txF (.leaf k a) = [c] := by
  unfold leafB at h
  split at h
  · rename_i h0
    injection h with h
    injection h with h1 h2
    subst h1 h2
    have : c ∈ letB := by
      have e := Lib.contains_iff_indexByte letB c
      rw [decide_eq_true h0] at e
      simpa using e
    have : c = 120 ∨ c = 121 ∨ c = 122 := by simpa [letB] using this
    rcases this with rfl | rfl | rfl <;> rfl
  · split at h
    · rename_i h0
      injection h with h
      injection h with h1 h2
      subst h1 h2
      have : c ∈ digB := by
        have e := Lib.contains_iff_indexByte digB c
        rw [decide_eq_true h0.1] at e
        simpa using e
      have : c = 48 ∨ c = 49 ∨ c = 50 ∨ c = 51 ∨ c = 52 ∨ c = 53 ∨ c = 54 ∨ c = 55 ∨ c = 56 ∨ c = 57 ∨ c = 65 ∨ c = 66 ∨ c = 67 := by simpa [digB] using this
      rcases this with rfl | rfl | rfl | rfl | rfl | rfl | rfl | rfl | rfl | rfl | rfl | rfl | rfl <;> rfl
    · cases h
theorem parse_txt {p : Int} : ∀ {n : Nat} {t t1 : List UInt8} {f : Fm}, parseF p n t = some (f, t1) → t = txF f ++ t1
  | 0, _, _, _, h => by simp [parseF] at h
  | n + 1, [], _, _, h => by simp [parseF] at h
  | n + 1, c :: t, t1, f, h => by
    simp only [parseF] at h
    split at h
    · rename_i hs
      cases h1 : parseF p n t with
      | none => rw [h1] at h; simp at h
      | some r1 =>
        obtain ⟨f1, u1⟩ := r1
        rw [h1] at h
        simp only at h
        cases h2 : parseF p n u1 with
        | none => rw [h2] at h; simp at h
        | some r2 =>
          obtain ⟨f2, u2⟩ := r2
          rw [h2] at h
          simp at h
          obtain ⟨rfl, rfl⟩ := h
          have e1 := parse_txt h1
          have e2 := parse_txt h2
          rw [e1, e2]
          have hc : c = 43 ∨ c = 42 := by simpa [signB] using hs
          rcases hc with rfl | rfl <;> simp [txF, kindB]
    · cases h1 : leafB p c with
      | none => rw [h1] at h; simp at h
      | some r1 =>
        rw [h1] at h
        simp at h
        obtain ⟨rfl, rfl⟩ := h
        rw [leaf_txt h1]
        rfl
theorem form_txt {p : Int} {t : List UInt8} {f : Fm} (h : formF p t = some f) : t = txF f := by
  unfold formF at h
  cases h1 : parseF p t.length t with
  | none => rw [h1] at h; simp at h
  | some r =>
    obtain ⟨g, u⟩ := r
    rw [h1] at h
    cases u with
    | nil =>
      simp at h
      subst h
      have := parse_txt h1
      simpa using this
    | cons c u => simp at h
theorem fo_one {p : Int} {s t : ByteArray} {f : Fm} (h1 : foF p s = some f) (h2 : foF p t = some f) : s = t := by
  have a := form_txt (foF_some h1).2.2
  have b := form_txt (foF_some h2).2.2
  have : s.data.toList = t.data.toList := a.trans b.symm
  exact ByteArray.ext (Array.toList_inj.1 this)
theorem fo_size {p : Int} {s : ByteArray} {f : Fm} (h : foF p s = some f) : sizeF f = s.size := by
  have hf := (foF_some h).2.2
  unfold formF at hf
  cases h1 : parseF p s.data.toList.length s.data.toList with
  | none => rw [h1] at hf; simp at hf
  | some r =>
    obtain ⟨g, u⟩ := r
    rw [h1] at hf
    cases u with
    | nil =>
      simp at hf
      subst hf
      have := parseF_size h1
      rw [Array.length_toList] at this
      have h2 : s.data.size = s.size := rfl
      simp at this
      omega
    | cons c u => simp at hf
/-! one gate, one tree -/
theorem atF_tree {p : Int} {D : List Gt} : ∀ {f g : Fm} {n : Nat}, okF p f → okF p g → atF D f n → atF D g n → f = g
  | .leaf k a, .leaf k' a', n, _, _, h, h' => by
    have e := h.2.symm.trans h'.2
    injection e with e1 e2
    rw [e1, e2]
  | .leaf k a, .pair k' f g, n, o, o', h, h' => by
    obtain ⟨_, u, v, _, _, e'⟩ := h'
    have e := h.2.symm.trans e'
    injection e with e1
    have h1 := o'.1
    have h2 : k = 0 ∨ k = 1 := o.imp (fun h => h.1) (fun h => h.1)
    omega
  | .pair k f g, .leaf k' a', n, o, o', h, h' => by
    obtain ⟨_, u, v, _, _, e'⟩ := h
    have e := e'.symm.trans h'.2
    injection e with e1
    have h1 := o.1
    have h2 : k' = 0 ∨ k' = 1 := o'.imp (fun h => h.1) (fun h => h.1)
    omega
  | .pair k f g, .pair k' f' g', n, o, o', h, h' => by
    obtain ⟨_, u, v, a1, a2, e1⟩ := h
    obtain ⟨_, u', v', b1, b2, e2⟩ := h'
    have e := e1.symm.trans e2
    injection e with e3 e4 e5
    have e4 : u = u' := by omega
    have e5 : v = v' := by omega
    subst e4 e5
    rw [e3, atF_tree o.2.1 o'.2.1 a1 b1, atF_tree o.2.2 o'.2.2 a2 b2]
/-- what stands there: no gate twice, each the place of a tree of a size -/
structure Shs (p : Int) (B : Nat) (D : List Gt) : Prop where
  nt : NoTwo D
  cv : ∀ n, n < D.length → ∃ g, atF D g n ∧ sizeF g ≤ B ∧ okF p g
theorem Shs.mono {p : Int} {B B' : Nat} {D : List Gt} (h : Shs p B D) (hB : B ≤ B') : Shs p B' D :=
  ⟨h.nt, fun n hn => by obtain ⟨g, h1, h2, h3⟩ := h.cv n hn; exact ⟨g, h1, by omega, h3⟩⟩
theorem shr_shs {p : Int} {B : Nat} {D : List Gt} (h : Shs p B D) (x : Gt) {g : Fm} (hg : okF p g) (hs : sizeF g ≤ B) (ha : ∀ E n, n < E.length → gAt E n = x → (∃ F, E = D ++ F) → atF E g n) : ∃ F, (shr x D).2 = D ++ F ∧ Shs p B (D ++ F) ∧ atF (D ++ F) g (shr x D).1 := by
  cases e : ixG x D with
  | some n =>
    rw [shr_hit e]
    refine ⟨[], by simp, by simpa using h, ?_⟩
    rw [List.append_nil]
    exact ha D n (ixG_lt e) (ixG_at e) ⟨[], by simp⟩
  | none =>
    rw [shr_new e]
    have hn := ixG_no e
    have hlen : (D ++ [x]).length = D.length + 1 := by rw [List.length_append]; rfl
    have hlast : gAt (D ++ [x]) D.length = x := gAt_end rfl
    have hat := ha (D ++ [x]) D.length (by omega) hlast ⟨[x], rfl⟩
    refine ⟨[x], rfl, ⟨fun i k hi hk he => ?_, fun n hn' => ?_⟩, hat⟩
    · by_cases h1 : i < D.length
      · by_cases h2 : k < D.length
        · rw [gAt_app h1, gAt_app h2] at he
          exact h.nt i k h1 h2 he
        · rw [gAt_app h1, show k = D.length by omega, hlast] at he
          exact absurd he (hn i h1)
      · by_cases h2 : k < D.length
        · rw [gAt_app h2, show i = D.length by omega, hlast] at he
          exact absurd he.symm (hn k h2)
        · omega
    · by_cases h1 : n < D.length
      · obtain ⟨i, hi, hi2⟩ := h.cv n h1
        exact ⟨i, atF_app hi, hi2⟩
      · rw [show n = D.length by omega]
        exact ⟨g, hat, hs, hg⟩
theorem putF_shs {p : Int} {B : Nat} : ∀ (f : Fm) (D : List Gt), okF p f → sizeF f ≤ B → Shs p B D → ∃ F, (putF f D).2 = D ++ F ∧ Shs p B (D ++ F) ∧ atF (D ++ F) f (putF f D).1
  | .leaf k a, D, ho, hs, hD => shr_shs hD ⟨k, a, 0⟩ ho hs (fun E n h1 h2 _ => ⟨h1, h2⟩)
  | .pair k f g, D, ho, hs, hD => by
    have hsz : sizeF (.pair k f g) = 1 + sizeF f + sizeF g := rfl
    obtain ⟨F1, e1, s1, a1⟩ := putF_shs f D ho.2.1 (by omega) hD
    obtain ⟨F2, e2, s2, a2⟩ := putF_shs g (D ++ F1) ho.2.2 (by omega) s1
    rw [← e1] at e2 s2 a2
    obtain ⟨F3, e3, s3, a3⟩ := shr_shs s2 ⟨k, ((putF f D).1 : Nat), ((putF g (putF f D).2).1 : Nat)⟩ ho hs (fun E n h1 h2 hE => by
      obtain ⟨F, rfl⟩ := hE
      refine ⟨h1, _, _, ?_, atF_app a2, h2⟩
      have := atF_app (E := F2 ++ F) a1
      rwa [← e1, ← List.append_assoc] at this)
    refine ⟨F1 ++ (F2 ++ F3), ?_, ?_, ?_⟩
    · show (shr _ _).2 = _
      rw [e2, e3, e1]
      simp only [List.append_assoc]
    · rw [e1] at s3
      simpa only [List.append_assoc] using s3
    · rw [e1] at a3
      show atF _ _ (shr _ _).1
      rw [e2, e1]
      simpa only [List.append_assoc] using a3
theorem Cov.shr2 {D : List Gt} {S : Nat → Prop} {k : Int} {a b : Nat} (hk : k = 2 ∨ k = 3) (h : Cov D (fun j => (S j ∨ j = a) ∨ j = b)) : Cov (shr ⟨k, (a : Int), (b : Int)⟩ D).2 (fun j => S j ∨ j = (shr ⟨k, (a : Int), (b : Int)⟩ D).1) := by
  have h' : Cov D (fun j => S j ∨ j = a ∨ j = b) := h.mono fun j hj => by
    rcases hj with (hj | hj) | hj
    · exact .inl hj
    · exact .inr (.inl hj)
    · exact .inr (.inr hj)
  cases e : ixG ⟨k, (a : Int), (b : Int)⟩ D with
  | none => rw [shr_new e]; exact h'.join hk
  | some n =>
    rw [shr_hit e]
    have hg := ixG_at e
    intro j hj
    rcases h' j hj with (h1 | h1) | h1
    · exact .inl (.inl h1)
    · refine .inr ⟨n, ixG_lt e, ?_, ?_⟩
      · rw [hg]; rcases hk with rfl | rfl <;> rfl
      · rw [hg]
        rcases h1 with rfl | rfl
        · exact .inl rfl
        · exact .inr rfl
    · exact .inr h1
theorem putF_cov {p : Int} : ∀ (f : Fm) (D : List Gt) (S : Nat → Prop), okF p f → Cov D S → Cov (putF f D).2 (fun j => S j ∨ j = (putF f D).1)
  | .leaf k a, D, S, _, h => by
    show Cov (shr ⟨k, a, 0⟩ D).2 (fun j => S j ∨ j = (shr ⟨k, a, 0⟩ D).1)
    cases e : ixG ⟨k, a, 0⟩ D with
    | none => rw [shr_new e]; exact h.snoc _
    | some n => rw [shr_hit e]; exact h.mono fun j hj => .inl hj
  | .pair k f g, D, S, ho, h => Cov.shr2 ho.1 (putF_cov g _ _ ho.2.2 (putF_cov f D S ho.2.1 h))
/-- the root stands last -/
theorem putF_last {p : Int} {f : Fm} (ho : okF p f) : (putF f []).1 + 1 = (putF f []).2.length := by
  have nil : ∀ B, Shs p B [] := fun B => ⟨fun i j hi => by simp at hi, fun n hn => by simp at hn⟩
  cases f with
  | leaf k a => rfl
  | pair k f g =>
    obtain ⟨F1, e1, s1, a1⟩ := putF_shs f [] ho.2.1 (Nat.le_refl _) (nil (sizeF f))
    obtain ⟨F2, e2, s2, a2⟩ := putF_shs (B := sizeF f + sizeF g) g ([] ++ F1) ho.2.2 (by omega) (s1.mono (by omega))
    rw [← e1] at e2 s2 a2
    show (shr _ _).1 + 1 = (shr _ _).2.length
    rw [e2]
    cases e : ixG ⟨k, ((putF f []).1 : Nat), ((putF g (putF f []).2).1 : Nat)⟩ ((putF f []).2 ++ F2) with
    | none =>
      rw [shr_new e]
      simp
      omega
    | some n =>
      exfalso
      obtain ⟨t, t1, t2, t3⟩ := s2.cv n (ixG_lt e)
      have hat : atF ((putF f []).2 ++ F2) (.pair k f g) n := by
        refine ⟨ixG_lt e, _, _, ?_, a2, ixG_at e⟩
        have := atF_app (E := F2) a1
        rwa [← e1] at this
      have := atF_tree ho t3 hat t1
      rw [← this] at t2
      have hsz : sizeF (.pair k f g) = 1 + sizeF f + sizeF g := rfl
      omega
theorem tr_is {p : Int} {D : List Gt} (hv : circB p D = true) : ∀ {f : Fm} {n : Nat}, okF p f → atF D f n → tr D n = f
  | .leaf k a, n, ho, h => by
    have hk : k = 0 ∨ k = 1 := ho.imp (fun h => h.1) (fun h => h.1)
    rw [tr_leaf (by rw [h.2]; rcases hk with rfl | rfl <;> rfl), h.2]
  | .pair k f g, n, ho, h => by
    obtain ⟨h1, u, v, a1, a2, e⟩ := h
    have hg : joinsB (gAt D n) = true := by rw [e]; rcases ho.1 with rfl | rfl <;> rfl
    have hc := gOK_cases ((circB_iff.1 hv).2.2.2 n h1)
    have hk : (gAt D n).k = 2 ∨ (gAt D n).k = 3 := by simpa [joinsB] using hg
    rw [tr_join hg (by omega) (by omega), e]
    show Fm.pair k (tr D ((u : Int)).toNat) (tr D ((v : Int)).toNat) = _
    rw [Int.toNat_natCast, Int.toNat_natCast, tr_is hv ho.2.1 a1, tr_is hv ho.2.2 a2]
theorem sz_tree {p : Int} {L : List Gt} (hv : circB p L = true) : ∀ d j, j < d → j < L.length → szAt L j = min (sizeF (tr L j) : Int) 1000
  | 0, j, h, _ => by omega
  | d + 1, j, h, hj => by
    have hc := gOK_cases ((circB_iff.1 hv).2.2.2 j hj)
    cases hg : joinsB (gAt L j)
    · rw [tr_leaf hg, szAt_eq, if_neg (by rw [hg]; decide)]
      show (1 : Int) = min ((1 : Nat) : Int) 1000
      omega
    · have hk : (gAt L j).k = 2 ∨ (gAt L j).k = 3 := by simpa [joinsB] using hg
      have ha : (gAt L j).a.toNat < j := by omega
      have hb : (gAt L j).b.toNat < j := by omega
      have ia := sz_tree hv d _ (show (gAt L j).a.toNat < d by omega) (by omega)
      have ib := sz_tree hv d _ (show (gAt L j).b.toNat < d by omega) (by omega)
      rw [tr_join hg ha hb, szAt_eq, if_pos hg, sizL_st L _ j ha, sizL_st L _ j hb, ia, ib]
      show _ = min ((1 + sizeF (tr L (gAt L j).a.toNat) + sizeF (tr L (gAt L j).b.toNat) : Nat) : Int) 1000
      omega
/-- all that the law of CircuitOfFormula asks -/
structure CofF (p : Int) (s : ByteArray) (D : List Gt) : Prop where
  cb : circB p D = true
  nt : NoTwo D
  ok : pffB p s = pcOk p D
  po : pffV p s = pcV p D
  fb : focB p D = true
  fs : focS p D = s
  us : (useV p D).length = D.length
  le : D.length ≤ s.size
theorem cofF {p : Int} {s : ByteArray} (h : (foF p s).isSome = true) : CofF p s (cofV p s) := by
  obtain ⟨f, hf⟩ := Option.isSome_iff_exists.1 h
  have ho := formF_ok (foF_some hf).2.2
  have hv := cofV_circ hf
  have e : cofV p s = (putF f []).2 := by unfold cofV; rw [hf]
  have hz := fo_size hf
  have h60 := foF_size hf
  have hle := (putF_facts f []).2.2
  have hla := putF_last ho
  obtain ⟨F, e1, s1, a1⟩ := putF_shs (B := sizeF f) f [] ho (Nat.le_refl _) ⟨fun i j hi => by simp at hi, fun n hn => by simp at hn⟩
  have hcov := putF_cov f [] (fun _ => False) ho (fun j hj => by simp at hj)
  rw [e] at hv ⊢
  rw [← e1] at s1 a1
  generalize (putF f []).2 = D at *
  generalize (putF f []).1 = r at *
  have hl := (circB_iff.1 hv).2.1
  have hr : r = D.length - 1 := by omega
  subst hr
  have htr := tr_is hv ho a1
  have w := pf_whole hv
  rw [htr] at w
  have hsz := sz_tree hv D.length (D.length - 1) (by omega) (by omega)
  rw [htr] at hsz
  have hfb : focB p D = true := by
    unfold focB
    rw [hv, Bool.true_and]
    exact decide_eq_true (by omega)
  have hcv : Cov D (fun j => (j : Int) = (D.length : Int) - 1) := hcov.mono fun j hj => by
    rcases hj with hj | hj
    · exact hj.elim
    · omega
  refine ⟨hv, s1.nt, by unfold pffB; rw [hf]; exact w.1, by unfold pffV; rw [hf]; exact w.2, hfb, ?_, ?_, by simp at hle; omega⟩
  · rw [(focF hfb).1]
    have := (fo_is hv (by omega)).1
    rw [htr] at this
    exact fo_one this hf
  · have hu : ∀ i, i < D.length → useF D i = true := fun i hi => cov_used hv hcv D.length i (by omega) hi
    unfold useV
    rw [if_pos hv, (prnL_out hv (circB_iff.1 hv).2.2.1).2, useTo_full _ hu]
end Go.Proofs.YtoeghbcolpailaaGreat
namespace Go.Proofs.YtoeghbcolpailaaGreat
open Go.RowKit
theorem pfF_ev {p : Int} (hp : isP p = true) : ∀ f : Fm, okF p f → (pfF p f).2 = true → validB p (pfF p f).1 = true ∧ ∀ x y z : Int, isE3 p x y z = true → evK p x y z (pfF p f).1 (pfF p f).1.length = evF p x y z f
  | .leaf k a, ho, _ => by
    have hb := isP_bd hp
    rcases ho with ⟨rfl, h3⟩ | ⟨rfl, a0, a1⟩
    · have e : (pfF p (.leaf 0 a)).1 = [onT a] := rfl
      rw [e]
      refine ⟨onT_valid hp _, fun x y z hE => ?_⟩
      have hE3 := isE3_iff.1 hE
      have hco : 0 ≤ coord x y z a ∧ coord x y z a < p := by
        unfold coord
        split
        · exact hE3.1
        · split
          · exact hE3.2.1
          · exact hE3.2.2
      show _ = coord x y z a
      refine evK_is hp (Cg.of_eq ?_) hco
      rcases h3 with h | h | h
      · rw [h]
        show (1 : Int) * (x ^ 1 * y ^ 0 * z ^ 0) + 0 = x
        grind
      · rw [h]
        show (1 : Int) * (x ^ 0 * y ^ 1 * z ^ 0) + 0 = y
        grind
      · rw [h]
        show (1 : Int) * (x ^ 0 * y ^ 0 * z ^ 1) + 0 = z
        grind
    · have e : (pfF p (.leaf 1 a)).1 = cnL a := rfl
      rw [e]
      refine ⟨cnL_valid ⟨a0, a1⟩, fun x y z hE => ?_⟩
      show _ = a
      refine evK_is hp (Cg.of_eq ?_) ⟨a0, a1⟩
      unfold cnL
      split
      · rename_i h; rw [h]; rfl
      · simp [wS, mon]
  | .pair k f g, ho, h => by
    obtain ⟨hk, hf, hg⟩ := ho
    by_cases h2 : (pfF p f).2 = true ∧ (pfF p g).2 = true
    · obtain ⟨vf, ef⟩ := pfF_ev hp f hf h2.1
      obtain ⟨vg, eg⟩ := pfF_ev hp g hg h2.2
      have he := pfF_pair (k := k) h2.1 h2.2
      rw [he] at h ⊢
      rcases hk with rfl | rfl
      · have h : addOk p (pfF p f).1 (pfF p g).1 = true := h
        obtain ⟨_, v1, v2, v3, hs⟩ := addOk_is h
        refine ⟨?_, fun x y z hE => ?_⟩
        · show validB p (sumV p (pfF p f).1 (pfF p g).1) = true
          rw [hs]; exact v3
        · show evK p x y z (sumV p (pfF p f).1 (pfF p g).1) (sumV p (pfF p f).1 (pfF p g).1).length = _
          rw [hs, add_ev hp, ef x y z hE, eg x y z hE]
          rfl
      · have h : mulOk p (pfF p f).1 (pfF p g).1 = true := h
        obtain ⟨_, v1, v2, v3, hs⟩ := mulOk_is2 h
        refine ⟨?_, fun x y z hE => ?_⟩
        · show validB p (mulL p (pfF p f).1 (pfF p g).1) = true
          rw [hs]; exact v3
        · show evK p x y z (mulL p (pfF p f).1 (pfF p g).1) (mulL p (pfF p f).1 (pfF p g).1).length = _
          rw [hs, mul_ev hp v1 v2, ef x y z hE, eg x y z hE]
          rfl
    · exfalso
      rw [pfF_none (k := k) (by
        by_cases a : (pfF p f).2 = true
        · right; exact Bool.eq_false_iff.2 fun b => h2 ⟨a, b⟩
        · left; exact Bool.eq_false_iff.2 a)] at h
      cases h
theorem sizeF_leaves : ∀ f : Fm, sizeF f + 1 = 2 * leavesF f
  | .leaf _ _ => rfl
  | .pair _ f g => by
    have h1 := sizeF_leaves f
    have h2 := sizeF_leaves g
    show 1 + sizeF f + sizeF g + 1 = 2 * (leavesF f + leavesF g)
    omega
theorem parseF_app {p : Int} : ∀ {n m : Nat} {t t1 u : List UInt8} {f : Fm}, parseF p n t = some (f, t1) → n ≤ m → parseF p m (t ++ u) = some (f, t1 ++ u)
  | 0, _, _, _, _, _, h, _ => by simp [parseF] at h
  | n + 1, _, [], _, _, _, h, _ => by simp [parseF] at h
  | n + 1, 0, _ :: _, _, _, _, _, hm => by omega
  | n + 1, m + 1, c :: t, t1, u, f, h, hm => by
    simp only [parseF, List.cons_append] at h ⊢
    split at h
    · rename_i hs
      rw [if_pos hs]
      cases h1 : parseF p n t with
      | none => rw [h1] at h; simp at h
      | some r1 =>
        obtain ⟨f1, u1⟩ := r1
        rw [h1] at h
        simp only at h
        rw [parseF_app (u := u) h1 (by omega)]
        simp only
        cases h2 : parseF p n u1 with
        | none => rw [h2] at h; simp at h
        | some r2 =>
          obtain ⟨f2, u2⟩ := r2
          rw [h2] at h
          simp at h
          obtain ⟨rfl, rfl⟩ := h
          rw [parseF_app (u := u) h2 (by omega)]
    · rename_i hs
      rw [if_neg hs]
      cases h1 : leafB p c with
      | none => rw [h1] at h; simp at h
      | some r1 =>
        rw [h1] at h
        simp at h
        obtain ⟨rfl, rfl⟩ := h
        rfl
theorem fo_more {p : Int} {s : ByteArray} {f : Fm} (h : foF p s = some f) : foF p (s ++ ⟨#[120]⟩) = none := by
  obtain ⟨hp, hs, hf⟩ := foF_some h
  unfold foF
  split
  · have e : (s ++ ⟨#[120]⟩ : ByteArray).data.toList = s.data.toList ++ [120] := by rw [ByteArray.data_append, Array.toList_append]
    rw [e]
    unfold formF at hf ⊢
    cases h1 : parseF p s.data.toList.length s.data.toList with
    | none => rw [h1] at hf; cases hf
    | some r =>
      obtain ⟨g, t⟩ := r
      rw [h1] at hf
      cases t with
      | cons c t => cases hf
      | nil =>
        have e5 : parseF p (s.data.toList ++ [120]).length (s.data.toList ++ [120]) = some (g, [] ++ [120]) := parseF_app h1 (by simp)
        rw [e5]
        rfl
  · rfl
/-- all that the law of formulas asks -/
structure ForF (p : Int) (s : ByteArray) : Prop where
  hp : isP p = true
  sz : s.size ≤ 60
  ev : ∀ x y z : Int, isE3 p x y z = true → pffB p s = true → evV p x y z (pffV p s) = evfV p x y z s
  nn : ∀ x y z : Int, isE3 p x y z = true → 0 ≤ evfV p x y z s
  lv : (2 : Int) * lvsV p s = (s.size : Int) + 1
  mo : fokB p (s ++ ⟨#[120]⟩) = false
theorem forF {p : Int} {s : ByteArray} {f : Fm} (h : foF p s = some f) : ForF p s := by
  obtain ⟨hp, hs, hf⟩ := foF_some h
  have ho := formF_ok hf
  have e1 : ∀ x y z, isE3 p x y z = true → evfV p x y z s = evF p x y z f := fun x y z hE => by unfold evfV; rw [h]; simp [hE]
  refine ⟨hp, hs, fun x y z hE hb => ?_, fun x y z hE => ?_, ?_, by rw [fokB_some, fo_more h]; rfl⟩
  · have hb : (pfF p f).2 = true := by unfold pffB at hb; rw [h] at hb; exact hb
    have e2 : pffV p s = (pfF p f).1 := by unfold pffV; rw [h]
    obtain ⟨v, e⟩ := pfF_ev hp f ho hb
    rw [e1 x y z hE, e2]
    unfold evV
    rw [hp, v, hE]
    exact e x y z hE
  · rw [e1 x y z hE]
    exact (evF_bd hp hE f ho).1
  · have := sizeF_leaves f
    have e3 := fo_size h
    unfold lvsV
    rw [h]
    simp only
    omega
end Go.Proofs.YtoeghbcolpailaaGreat
