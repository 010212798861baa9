/-
  CircuitOfFormula of the model, on. Conditions: none.
  CircuitOfFormula of the program. Conditions: none.
  CircuitOfFormula of the program, on. Conditions: none.
-/
import Derived.Test.YtegkcfinklcglaaBo34
import Derived.Test.YtegkcfinklcglaaBo2
import Derived.Test.YtegkcfinklcglaaBo21
namespace Go.Proofs.Ytegkcfinklcglaa
open Go.RowKit
/-- what the model's reader leaves behind -/
def MkTo2 (B G : Nat) (n : Nat) (cs : Nat → Value) (C : List Gt) (v : Value) (r j : Int) (w : World) (e : Ending) (w' : World) : Prop :=
  ∃ v', e = .returned (.tuple #[.int .i64 r, .int .i64 j]) ∧ MkS w' G v' n cs C ∧ Below B w w' ∧ Apt G G v w w' ∧ Moves v v' w
set_option maxRecDepth 100000 in
set_option maxHeartbeats 4000000 in
theorem sPut4 (p : Int) (s : ByteArray) (hs : s.size ≤ 1000) (B G nn : Nat) (cs : Nat → Value) (hBG : B ≤ G) : ∀ (n i : Nat) (f : Fm) (t1 : List UInt8) (v : Value) (C : List Gt) (w : World), parseF p n (s.data.toList.drop i) = some (f, t1) → i ≤ s.size → C.length + sizeF f ≤ 200 → MkS w G v nn cs C →
    Calls Try.prog 146 #[.pointer (some ⟨G, 0, none⟩), .string s, .int .i64 (i : Int)] w (MkTo2 B G nn cs (putF f C).2 v ((putF f C).1 : Nat) ((s.size : Int) - t1.length) w)
  | n, i, f, t1, v, C, w, hpf, hi, hC, hM => by
    have hsl : s.data.toList.length = s.size := by rw [Array.length_toList]; rfl
    by_cases hlt : i < s.size
    · cases n with
      | zero => simp [parseF] at hpf
      | succ n =>
        have hdr := drop_at hlt
        obtain ⟨c, hc⟩ : ∃ c, c = s[i] := ⟨_, rfl⟩
        rw [← hc] at hdr
        have hltp : (i : Int) < (s.size : Int) := by omega
        have hi0 : (0 : Int) ≤ (i : Int) := by omega
        have hw2 : IntKind.i64.wrap ((i : Int) + 1) = (i : Int) + 1 := IntWalk.i64_in _ (by omega)
        have hcn : ((s[i].toNat : Nat) : Int) = ((c.toNat : Nat) : Int) := by rw [hc]
        have hlen : (s.data.toList.drop (i + 1)).length = s.size - (i + 1) := by rw [List.length_drop, hsl]
        rw [hdr] at hpf
        simp only [parseF] at hpf
        split at hpf
        · rename_i hsg
          cases h1 : parseF p n (s.data.toList.drop (i + 1)) with
          | none => rw [h1] at hpf; simp at hpf
          | some r1 =>
            obtain ⟨f1, u1⟩ := r1
            rw [h1] at hpf
            simp only at hpf
            cases h2 : parseF p n u1 with
            | none => rw [h2] at hpf; simp at hpf
            | some r2 =>
              obtain ⟨f2, u2⟩ := r2
              rw [h2] at hpf
              simp at hpf
              obtain ⟨rfl, rfl⟩ := hpf
              have e1 := parseF_drop h1
              have l1 := parseF_len h1
              have e2 : u1 = s.data.toList.drop (s.size - u1.length) := by
                rw [List.drop_drop] at e1
                rw [show s.size - u1.length = i + 1 + ((s.data.toList.drop (i + 1)).length - u1.length) by omega]
                exact e1
              have hcast : ((i + 1 : Nat) : Int) = (i : Int) + 1 := by omega
              have hcast2 : ((s.size - u1.length : Nat) : Int) = (s.size : Int) - u1.length := by omega
              have hsz : sizeF (.pair (kindB c) f1 f2) = 1 + sizeF f1 + sizeF f2 := rfl
              rw [hsz] at hC
              have pf1 := putF_facts f1 C
              have pf2 := putF_facts f2 (putF f1 C).2
              have IH1 := Lib.hid (hcast ▸ sPut4 p s hs B G nn cs hBG n (i + 1) f1 u1 v C w h1 (by omega) (by omega) hM)
              have h2' : parseF p n (s.data.toList.drop (s.size - u1.length)) = some (f2, u2) := by rw [← e2]; exact h2
              have IH2 := Lib.hid (fun v' w' (h : MkS w' G v' nn cs (putF f1 C).2) => hcast2 ▸ sPut4 p s hs B G nn cs hBG n (s.size - u1.length) f2 u2 v' _ w' h2' (by omega) (by omega) h)
              have hcs : c = 43 ∨ c = 42 := by simpa [signB] using hsg
              have hpe : putF (.pair (kindB c) f1 f2) C = shr ⟨kindB c, ((putF f1 C).1 : Nat), ((putF f2 (putF f1 C).2).1 : Nat)⟩ (putF f2 (putF f1 C).2).2 := rfl
              rw [hpe]
              obtain ⟨⟨x1, C1⟩, hX1⟩ : ∃ X, X = putF f1 C := ⟨_, rfl⟩
              rw [← hX1] at IH1 IH2 pf1 pf2 ⊢
              simp only at IH1 IH2 pf1 pf2 ⊢
              obtain ⟨⟨x2, C2⟩, hX2⟩ : ∃ X, X = putF f2 C1 := ⟨_, rfl⟩
              rw [← hX2] at IH2 pf2 ⊢
              simp only at IH2 pf2 ⊢
              have HSH := Lib.hid (fun v' w' (h : MkS w' G v' nn cs C2) => sShare B G G nn v' cs C2 ⟨kindB c, (x1 : Nat), (x2 : Nat)⟩ w' (by omega) hBG h)
              obtain ⟨⟨x3, C3⟩, hX3⟩ : ∃ X, X = shr ⟨kindB c, (x1 : Nat), (x2 : Nat)⟩ C2 := ⟨_, rfl⟩
              rw [← hX3] at HSH ⊢
              simp only at HSH ⊢
              obtain ⟨j, hj⟩ : ∃ j : Int, j = (s.size : Int) - u1.length := ⟨_, rfl⟩
              obtain ⟨k, hk⟩ : ∃ k : Int, k = (s.size : Int) - u2.length := ⟨_, rfl⟩
              rw [← hj] at IH1 IH2
              rw [← hk] at IH2 ⊢
              clear hdr hc hlen h1 h2 h2' e1 l1 e2 hcast hcast2 hj hk hsg hX1 hX2 hX3 hsz pf1 pf2 hpe hM hC
              go_enter Try.func146, Try.ntmps146
              rcases hcs with rfl | rfl
              all_goals
                first | rw [show (((43 : UInt8).toNat : Nat) : Int) = 43 from rfl] at hcn | rw [show (((42 : UInt8).toNat : Nat) : Int) = 42 from rfl] at hcn
                first | rw [show kindB 43 = 2 from rfl] at HSH | rw [show kindB 42 = 3 from rfl] at HSH
                go_wp2_with fail
                refine IH1.out.mono ?_
                rintro e w1 ⟨v1, rfl, hm1, hb1, ha1, hv1⟩
                have H1 := Lib.hid (And.intro hm1 (And.intro hb1 (And.intro ha1 hv1)))
                clear hm1 hb1 ha1 hv1
                go_wp2_with fail
                refine (IH2.out _ _ H1.out.1).mono ?_
                rintro e w2 ⟨v2, rfl, hm2, hb2, ha2, hv2⟩
                have H2 := Lib.hid (And.intro hm2 (And.intro (H1.out.2.1.trans hb2) (And.intro (H1.out.2.2.1.trans ha2 H1.out.2.2.2 H1.out.2.1.size) (H1.out.2.2.2.trans hv2 H1.out.2.1.size))))
                clear hm2 hb2 ha2 hv2
                go_wp2_with fail
                refine (HSH.out _ _ H2.out.1).mono ?_
                rintro e w3 ⟨v3, rfl, hm3, hb3, ha3, hv3⟩
                have H3 := Lib.hid (And.intro hm3 (And.intro (H2.out.2.1.trans hb3) (And.intro (H2.out.2.2.1.trans ha3 H2.out.2.2.2 H2.out.2.1.size) (H2.out.2.2.2.trans hv3 H2.out.2.1.size))))
                clear hm3 hb3 ha3 hv3
                go_wp2_with fail
                refine bodyPost_ret (results_tmp2 rfl _ _ _) rfl ?_
                exact ⟨_, rfl, H3.out.1, H3.out.2.1, H3.out.2.2.1, H3.out.2.2.2⟩
        · rename_i hsg
          cases h1 : leafB p c with
          | none => rw [h1] at hpf; simp at hpf
          | some r1 =>
            obtain ⟨k, a⟩ := r1
            rw [h1] at hpf
            simp at hpf
            obtain ⟨rfl, rfl⟩ := hpf
            have HG := Lib.hid (sGate4 p c k a w h1)
            have hpe : putF (.leaf k a) C = shr ⟨k, a, 0⟩ C := rfl
            rw [hpe]
            have HSH := Lib.hid (fun w' (hb : Below w.heap.size w w') => (sShare B G G nn v cs C ⟨k, a, 0⟩ w' (by omega) hBG (hM.below hb)).mono fun e w'' h => h.from hb (Nat.le_trans hBG (Nat.le_of_lt hM.sh.lt)))
            obtain ⟨⟨x3, C3⟩, hX3⟩ : ∃ X, X = shr ⟨k, a, 0⟩ C := ⟨_, rfl⟩
            rw [← hX3] at HSH ⊢
            simp only at HSH ⊢
            have n43 : ¬ ((c.toNat : Nat) : Int) = 43 := byte_ne (b := 43) (fun e => by rw [e] at hsg; simp [signB] at hsg)
            have n42 : ¬ ((c.toNat : Nat) : Int) = 42 := byte_ne (b := 42) (fun e => by rw [e] at hsg; simp [signB] at hsg)
            have hend : (s.size : Int) - ((s.data.toList.drop (i + 1)).length : Nat) = (i : Int) + 1 := by rw [hlen]; omega
            rw [hend]
            clear hdr hc hlen h1 hsg hend hX3 hpe hM hC
            go_enter Try.func146, Try.ntmps146
            go_wp2_with fail
            refine HG.out.mono ?_
            rintro e w1 ⟨rfl, hb1⟩
            have HB1 := Lib.hid hb1
            clear hb1
            go_wp2_with fail
            refine (HSH.out _ HB1.out).mono ?_
            rintro e w3 ⟨v3, rfl, hm3, hb3, ha3, hv3⟩
            have H3 := Lib.hid (And.intro hm3 (And.intro hb3 (And.intro ha3 hv3)))
            clear hm3 hb3 ha3 hv3
            go_wp2_with fail
            refine bodyPost_ret (results_tmp2 rfl _ _ _) rfl ?_
            exact ⟨_, rfl, H3.out.1, H3.out.2.1, H3.out.2.2.1, H3.out.2.2.2⟩
    · rw [List.drop_eq_nil_of_le (by omega)] at hpf
      cases n <;> simp [parseF] at hpf
termination_by n _ _ _ _ _ _ => n
/-- what CircuitOfFormula returns -/
def cofV (p : Int) (s : ByteArray) : List Gt := match foF p s with
  | none => []
  | some f => (putF f []).2
theorem foF_size {p : Int} {s : ByteArray} {f : Fm} (h : foF p s = some f) : sizeF f ≤ 60 := by
  obtain ⟨_, hs, hf⟩ := foF_some h
  unfold formF at hf
  rw [Array.length_toList] at hf
  cases h1 : parseF p s.data.size s.data.toList with
  | none => rw [h1] at hf; simp at hf
  | some r =>
    obtain ⟨g, u⟩ := r
    rw [h1] at hf
    cases u with
    | nil =>
      have hg : g = f := by simpa using hf
      subst hg
      have := parseF_size h1
      rw [Array.length_toList] at this
      have h2 : s.data.size = s.size := rfl
      simp at this
      omega
    | cons c u => simp at hf
theorem cofV_circ {p : Int} {s : ByteArray} {f : Fm} (h : foF p s = some f) : circB p (cofV p s) = true := by
  have hf := putF_facts f []
  have hz := foF_size h
  have hk := putF_ok (p := p) f [] (formF_ok (foF_some h).2.2) (fun j hj => by simp at hj)
  have e : cofV p s = (putF f []).2 := by unfold cofV; rw [h]
  rw [e]
  exact circB_iff.2 ⟨(foF_some h).1, by omega, by simpa using Nat.le_trans hf.2.2 (by simpa using hz), hk⟩
set_option maxRecDepth 100000 in
set_option maxHeartbeats 4000000 in
theorem sCircuitOfFormula (p : Int) (s : ByteArray) (w : World) :
    Calls Try.prog 68 #[.int .i64 p, .string s] w (GivesGB (cofV p s) (foF p s).isSome w) := by
  obtain ⟨W, hW⟩ : ∃ W, W = w.alloc (Obj.cells #[.slice none 0 0, .int .i64 0, .int .i64 0, .int .i64 0] 150) := ⟨_, rfl⟩
  have bW : Below w.heap.size w W := by rw [hW]; exact Below.alloc (Below.refl _ _) (Nat.le_refl _) _
  have HM := Lib.hid (show MkS W w.heap.size (.slice none 0 0) 1 (fun _ => undef) [] by
    rw [hW]
    exact ⟨⟨by simp [go_sem], fun i h1 h2 => by omega, World.frozen?_alloc_at _ _ _ 0 rfl, by simp, fun i h1 h2 => by omega⟩, RowGt.nil _ _⟩)
  have HbW := Lib.hid bW
  have HW := Lib.hid hW
  have HF := Lib.hid (sFormulaValid p s)
  clear hW bW
  cases h : foF p s with
  | none =>
    have e : cofV p s = [] := by unfold cofV; rw [h]
    have e2 : fokB p s = false := by rw [fokB_some, h]; rfl
    rw [e]
    rw [e2] at HF
    clear h e e2
    show Calls _ _ _ _ (GivesGB [] false w)
    go_enter Try.func68, Try.ntmps68
    go_wp2_with fail
    rw [← HW.out]
    refine (HF.out _).mono ?_
    rintro e w1 ⟨rfl, hb1⟩
    have HB := Lib.hid (HbW.out.trans (hb1.mono HbW.out.size))
    clear hb1
    go_wp2_with fail
    refine bodyPost_ret (results_tmp2 rfl _ _ _) rfl ?_
    exact ⟨_, rfl, (RowGt.lit0 w1 w.heap.size HB.out.size).own (by simp), Below.alloc HB.out HB.out.size _⟩
  | some f =>
    have e2 : fokB p s = true := by rw [fokB_some, h]; rfl
    rw [e2] at HF
    have hz := foF_size h
    have hfa := putF_facts f []
    have e : cofV p s = (putF f []).2 := by unfold cofV; rw [h]
    rw [e]
    obtain ⟨hp, hs, hf⟩ := foF_some h
    have hw : parseF p s.size (s.data.toList.drop 0) = some (f, []) := by
      unfold formF at hf
      rw [Array.length_toList] at hf
      rw [List.drop_zero]
      show parseF p s.data.size _ = _
      cases h1 : parseF p s.data.size s.data.toList with
      | none => rw [h1] at hf; simp at hf
      | some r =>
        obtain ⟨g, u⟩ := r
        rw [h1] at hf
        cases u with
        | nil => simp at hf; rw [hf]
        | cons c u => simp at hf
    have HV := Lib.hid (fun w' (hb : Below W.heap.size W w') => sPut4 p s (by omega) w.heap.size w.heap.size 1 (fun _ => undef) (Nat.le_refl _) s.size 0 f [] _ [] w' hw (by omega) (by simp; omega) (HM.out.below hb))
    obtain ⟨⟨x1, C1⟩, hX1⟩ : ∃ X, X = putF f [] := ⟨_, rfl⟩
    rw [← hX1] at HV hfa ⊢
    simp only [List.length_nil, Nat.zero_add] at HV hfa ⊢
    obtain ⟨k, hk⟩ : ∃ k : Int, k = (s.size : Int) - ((0 : Nat) : Int) := ⟨_, rfl⟩
    rw [← hk] at HV
    have hC60 : C1.length ≤ 60 := by omega
    have hC60' : (C1.length : Int) ≤ 60 := by omega
    show Calls _ _ _ _ (GivesGB C1 true w)
    clear h e e2 hf hp hw hk hX1 hfa hz
    go_enter Try.func68, Try.ntmps68
    go_wp2_with fail
    rw [← HW.out]
    refine (HF.out _).mono ?_
    rintro e w1 ⟨rfl, hb1⟩
    have HB := Lib.hid hb1
    clear hb1
    go_wp2_with fail
    refine (HV.out _ HB.out).mono ?_
    rintro e w2 ⟨v2, rfl, hm2, hb2, ha2, hv2⟩
    have H2 := Lib.hid (And.intro hm2 ((HbW.out.trans (HB.out.mono HbW.out.size)).trans hb2))
    obtain ⟨a2, k2, rfl⟩ := hm2.slice
    have c0 := hm2.sh.c0
    have hlt2 := hm2.sh.lt
    clear hm2 hb2 ha2 hv2
    go_wp2_with fail
    refine bodyPost_ret (results_tmp2 rfl _ _ _) rfl ?_
    exact ⟨_, rfl, (H2.out.1.row.mono (Nat.le_succ _)).own (by omega), H2.out.2⟩
end Go.Proofs.Ytegkcfinklcglaa
namespace Go.Proofs.Ytegkcfinklcglaa
open Go.RowKit
theorem MapG.below {w w' : World} {b : Nat} {C : List Gt} (h : MapG w b C) (hb : Below w.heap.size w w') : MapG w' b C := (hb.block b (Array.getElem?_eq_some_iff.1 h).1).trans h
theorem MapG.lt {w : World} {b : Nat} {C : List Gt} (h : MapG w b C) : b < w.heap.size := (Array.getElem?_eq_some_iff.1 h).1
theorem wpList_mapG {ops : Array Oper} {rest : List Oper} {o : Oper} {a : Act} {w : World} {Q : Exit → Act → World → Prop} (hg : o.guard = none) (m x v : Operand) (hop : o.op = Op.mapUpdate 142 m x v)
    (b : Nat) (C : List Gt) (g : Gt) (hm : a.eval m = .map (some b)) (h : MapG w b C) (hx : a.eval x = g.v) (hv : a.eval v = .int .i64 (C.length : Int)) (hn : ixG g C = none)
    (hK : ∀ w', MapG w' b (C ++ [g]) → w.grownBy w' (some b) → wpList Try.prog ops Q rest (a.put o.dst undef) w') : wpList Try.prog ops Q (o :: rest) a w := by
  refine wpList_plain hg fun K' hK' => ?_
  obtain ⟨w', hrun, r1, r2⟩ := h.store g hn
  unfold Oper.wp
  simp [execOp, hop, hm, hx, hv, hrun, Result.andThen]
  exact hK' _ _ (hK w' r1 r2)
theorem keepBox {w w1 : World} {n G M : Nat} {v a b c : Value} (ha : Apt G M v w w1) (hn : n < w.heap.size) (hG : n ≠ G) (hM : n ≠ M) (hv : v.ownBlock ≠ some n)
    (h : w.cell? ⟨n, 0, none⟩ = some a ∧ w.cell? ⟨n, 1, none⟩ = some b ∧ w.cell? ⟨n, 2, none⟩ = some c) : w1.cell? ⟨n, 0, none⟩ = some a ∧ w1.cell? ⟨n, 1, none⟩ = some b ∧ w1.cell? ⟨n, 2, none⟩ = some c := by
  have e := ha n hn hG hM hv
  obtain ⟨h0, h1, h2⟩ := h
  exact ⟨by rw [World.cell?_of_block (a := ⟨n, 0, none⟩) e]; exact h0, by rw [World.cell?_of_block (a := ⟨n, 1, none⟩) e]; exact h1, by rw [World.cell?_of_block (a := ⟨n, 2, none⟩) e]; exact h2⟩
/-- the other cells of the program's maker -/
def shC (p : Int) (M : Nat) (i : Nat) : Value := if i = 1 then .int .i64 p else .map (some M)
/-- what the program's method leaves behind -/
def ShTo (B G M : Nat) (p : Int) (C : List Gt) (v : Value) (r : Int) (w : World) (e : Ending) (w' : World) : Prop := MkTo B G M 3 (shC p M) C v r w e w' ∧ MapG w' M C
set_option maxRecDepth 100000 in
set_option maxHeartbeats 8000000 in
theorem iShare (B G M : Nat) (p : Int) (v : Value) (C : List Gt) (x : Gt) (w : World) (hl : C.length ≤ 500) (hMG : M < G) (hBM : B ≤ M) (h : MkS w G v 3 (shC p M) C) (hm : MapG w M C) :
    Calls Try.prog 183 #[.pointer (some ⟨G, 0, none⟩), .agg #[.int .i64 x.k, .int .i64 x.a, .int .i64 x.b]] w (ShTo B G M p (shr x C).2 v ((shr x C).1 : Nat) w) := by
  obtain ⟨W, hW⟩ : ∃ W, W = w.alloc (Obj.cells #[.int .i64 x.k, .int .i64 x.a, .int .i64 x.b] 75) := ⟨_, rfl⟩
  have bW : Below w.heap.size w W := by rw [hW]; exact Below.alloc (Below.refl _ _) (Nat.le_refl _) _
  have hT : GAt W w.heap.size 0 x := by rw [hW]; refine ⟨?_, ?_, ?_⟩ <;> simp [go_sem]
  have hsW : w.heap.size < W.heap.size := by rw [hW]; simp
  have HS := Lib.hid (fun w' (hb : Below W.heap.size W w') => show MkS w' G v 3 (shC p M) C ∧ MapG w' M C ∧ GAt w' w.heap.size 0 x ∧ Below w.heap.size w w' from
    ⟨(h.below bW).below hb, (hm.below bW).below hb, hT.below hb hsW, bW.trans (hb.mono (Nat.le_of_lt hsW))⟩)
  have hBw : B ≤ w.heap.size := by have := h.sh.lt; omega
  have HW := Lib.hid hW
  have HR := Lib.hid h.row
  have hgw := h.sh.lt
  have HVN := Lib.hid (h.old (Nat.le_refl _))
  clear hW bW hT hm h
  cases hix : ixG x C with
  | some k =>
    rw [shr_hit hix]
    have HIX := Lib.hid hix
    clear hix
    go_enter Try.func183, Try.ntmps183
    go_wp2_with fail
    rw [← HW.out]
    clear HW
    refine wp_region_below (by kernel_rfl) (by kernel_rfl) ?_
    (with_reducible refine wpQuiet_yes ?_ ?_; (focus (kernel_rfl)); intro K hK; go_simp; refine ⟨_, fun _ _ => rfl, ?_⟩; with_reducible refine hK _ ?_; clear hK K)
    (with_reducible refine wpQuiet_yes ?_ ?_; (focus (kernel_rfl)); intro K hK; go_simp; refine ⟨_, fun _ _ => rfl, ?_⟩; with_reducible refine hK _ ?_; clear hK K)
    (with_reducible refine wpQuiet_yes ?_ ?_; (focus (kernel_rfl)); intro K hK; go_simp; refine ⟨_, fun _ _ => rfl, ?_⟩; with_reducible refine hK _ ?_; clear hK K)
    (with_reducible refine wpQuiet_yes ?_ ?_; (focus (kernel_rfl)); intro K hK; go_simp; refine ⟨(.map (some M)), ?_, ?_⟩; rotate_left; with_reducible refine hK _ ?_; clear hK K; rotate_left)
    · intro w' hw
      have c2 := (HS.out w' hw).1.sh.oth 2 (by omega) (by omega)
      simp only [c2, shC, go_sem, Result.andThen, and_self, Nat.reduceEqDiff, if_false]
    (with_reducible refine wpQuiet_yes ?_ ?_; (focus (kernel_rfl)); intro K hK; go_simp; refine ⟨(.agg #[.int .i64 x.k, .int .i64 x.a, .int .i64 x.b]), ?_, ?_⟩; rotate_left; with_reducible refine hK _ ?_; clear hK K; rotate_left)
    · intro w' hw
      obtain ⟨t0, t1, t2⟩ := (HS.out w' hw).2.2.1
      simp only [Nat.zero_add] at t0 t1 t2
      simp only [t0, t1, t2, go_sem, Result.andThen, and_self]
    (with_reducible refine wpQuiet_yes ?_ ?_; (focus (kernel_rfl)); intro K hK; go_simp; refine ⟨(.tuple #[.int .i64 (k : Int), .bool true]), ?_, ?_⟩; rotate_left; with_reducible refine hK _ ?_; clear hK K; rotate_left)
    · intro w' hw
      have := (HS.out w' hw).2.1.lookup x
      rw [HIX.out] at this
      unfold Gt.v at this
      simp only [Option.getD_some, Option.isSome_some] at this
      rw [this]
      simp
    (with_reducible refine wpQuiet_yes ?_ ?_; (focus (kernel_rfl)); intro K hK; go_simp; refine ⟨_, fun _ _ => rfl, ?_⟩; with_reducible refine hK _ ?_; clear hK K)
    (with_reducible refine wpQuiet_yes ?_ ?_; (focus (kernel_rfl)); intro K hK; go_simp; refine ⟨_, fun _ _ => rfl, ?_⟩; with_reducible refine hK _ ?_; clear hK K)
    (with_reducible refine wpQuiet_yes ?_ ?_; (focus (kernel_rfl)); intro K hK; go_simp; refine ⟨_, fun _ _ => rfl, ?_⟩; with_reducible refine hK _ ?_; clear hK K)
    (with_reducible refine wpQuiet_yes ?_ ?_; (focus (kernel_rfl)); intro K hK; go_simp; refine ⟨_, fun _ _ => rfl, ?_⟩; with_reducible refine hK _ ?_; clear hK K)
    (with_reducible refine wpQuiet_yes ?_ ?_; (focus (kernel_rfl)); intro K hK; go_simp; refine ⟨_, fun _ _ => rfl, ?_⟩; with_reducible refine hK _ ?_; clear hK K)
    refine wpQuiet_nil fun w2 hb2 => ?_
    have H2 := Lib.hid (HS.out w2 hb2)
    clear hb2
    simp only [Exit.then]
    go_wp2_with fail
    go_ret
    exact ⟨⟨_, rfl, H2.out.1, H2.out.2.2.2.mono hBw, Apt.of_below H2.out.2.2.2, .inl rfl⟩, H2.out.2.1⟩
  | none =>
    rw [shr_new hix]
    have HIX := Lib.hid hix
    clear hix
    go_enter Try.func183, Try.ntmps183
    go_wp2_with fail
    rw [← HW.out]
    clear HW
    refine wp_region_below (by kernel_rfl) (by kernel_rfl) ?_
    (with_reducible refine wpQuiet_yes ?_ ?_; (focus (kernel_rfl)); intro K hK; go_simp; refine ⟨_, fun _ _ => rfl, ?_⟩; with_reducible refine hK _ ?_; clear hK K)
    (with_reducible refine wpQuiet_yes ?_ ?_; (focus (kernel_rfl)); intro K hK; go_simp; refine ⟨_, fun _ _ => rfl, ?_⟩; with_reducible refine hK _ ?_; clear hK K)
    (with_reducible refine wpQuiet_yes ?_ ?_; (focus (kernel_rfl)); intro K hK; go_simp; refine ⟨_, fun _ _ => rfl, ?_⟩; with_reducible refine hK _ ?_; clear hK K)
    (with_reducible refine wpQuiet_yes ?_ ?_; (focus (kernel_rfl)); intro K hK; go_simp; refine ⟨(.map (some M)), ?_, ?_⟩; rotate_left; with_reducible refine hK _ ?_; clear hK K; rotate_left)
    · intro w' hw
      have c2 := (HS.out w' hw).1.sh.oth 2 (by omega) (by omega)
      simp only [c2, shC, go_sem, Result.andThen, and_self, Nat.reduceEqDiff, if_false]
    (with_reducible refine wpQuiet_yes ?_ ?_; (focus (kernel_rfl)); intro K hK; go_simp; refine ⟨(.agg #[.int .i64 x.k, .int .i64 x.a, .int .i64 x.b]), ?_, ?_⟩; rotate_left; with_reducible refine hK _ ?_; clear hK K; rotate_left)
    · intro w' hw
      obtain ⟨t0, t1, t2⟩ := (HS.out w' hw).2.2.1
      simp only [Nat.zero_add] at t0 t1 t2
      simp only [t0, t1, t2, go_sem, Result.andThen, and_self]
    (with_reducible refine wpQuiet_yes ?_ ?_; (focus (kernel_rfl)); intro K hK; go_simp; refine ⟨(.tuple #[.int .i64 0, .bool false]), ?_, ?_⟩; rotate_left; with_reducible refine hK _ ?_; clear hK K; rotate_left)
    · intro w' hw
      have := (HS.out w' hw).2.1.lookup x
      rw [HIX.out] at this
      unfold Gt.v at this
      simp only [Option.getD_none, Option.isSome_none] at this
      rw [this]
      simp
    (with_reducible refine wpQuiet_yes ?_ ?_; (focus (kernel_rfl)); intro K hK; go_simp; refine ⟨_, fun _ _ => rfl, ?_⟩; with_reducible refine hK _ ?_; clear hK K)
    (with_reducible refine wpQuiet_yes ?_ ?_; (focus (kernel_rfl)); intro K hK; go_simp; refine ⟨_, fun _ _ => rfl, ?_⟩; with_reducible refine hK _ ?_; clear hK K)
    (with_reducible refine wpQuiet_yes ?_ ?_; (focus (kernel_rfl)); intro K hK; go_simp; refine ⟨_, fun _ _ => rfl, ?_⟩; with_reducible refine hK _ ?_; clear hK K)
    (with_reducible refine wpQuiet_yes ?_ ?_; (focus (kernel_rfl)); intro K hK; go_simp; refine ⟨_, fun _ _ => rfl, ?_⟩; with_reducible refine hK _ ?_; clear hK K)
    (with_reducible refine wpQuiet_yes ?_ ?_; (focus (kernel_rfl)); intro K hK; go_simp; refine ⟨_, fun _ _ => rfl, ?_⟩; with_reducible refine hK _ ?_; clear hK K)
    refine wpQuiet_nil fun w2 hb2 => ?_
    have H2 := Lib.hid (HS.out w2 hb2)
    have hs2 : w.heap.size < w2.heap.size := Nat.lt_of_lt_of_le hsW hb2.size
    obtain ⟨t0, t1, t2⟩ := (HS.out w2 hb2).2.2.1
    simp only [Nat.zero_add] at t0 t1 t2
    clear hb2
    simp only [Exit.then]
    go_wp2_with fail
    go_region_held3 (fun w' => w'.cell? ⟨w.heap.size, 0, none⟩ = some (.int .i64 x.k) ∧ w'.cell? ⟨w.heap.size, 1, none⟩ = some (.int .i64 x.a) ∧ w'.cell? ⟨w.heap.size, 2, none⟩ = some (.int .i64 x.b)) (first | exact keepBox ha3 (by simpa using hs2) (by omega) (by omega) HVN.out (by assumption) | go_keep)
      (first | (go_at_call 136; refine (iPutS B G G 3 v (shC p M) C x _ (by omega) (by omega) (H2.out.1.below (Below.drew (Below.refl _ _)))).mono ?_; rintro e w3 ⟨v3, rfl, hm3, hb3, ha3, hv3⟩))
    all_goals
      have hMv : v.ownBlock ≠ some M := H2.out.1.row.block (by omega)
      have hM3 : MapG w3 M C := (ha3 M (by have := H2.out.2.1.lt; simpa using this) (by omega) (by omega) hMv).trans (H2.out.2.1.below (Below.drew (Below.refl _ _)))
      have hM3v : v3.ownBlock ≠ some M := hm3.row.block (by omega)
      have hT3 := keepBox ha3 (by simpa using hs2) (by omega) (by omega) HVN.out ⟨t0, t1, t2⟩
      have H3 := Lib.hid (show MkS w3 G v3 3 (shC p M) (C ++ [x]) ∧ Below B w w3 ∧ Apt G M v w w3 ∧ Moves v v3 w from by
        have hz := H2.out.2.2.2.size
        refine ⟨hm3, (H2.out.2.2.2.mono hBw).trans ((Below.drew (Below.refl B w2) : Below B w2 w2.drew).trans hb3), ?_, Moves.trans (.inl rfl) hv3 (by simpa using hz)⟩
        exact (Apt.of_below H2.out.2.2.2).trans (v' := v) (fun b hb h1 h2 h3 => ha3 b (by simpa using hb) h1 h1 h3) (.inl rfl) hz)
      have HM3 := Lib.hid hM3
      have HMV := Lib.hid hM3v
      have c2 := hm3.sh.oth 2 (by omega) (by omega)
      simp only [shC, Nat.reduceEqDiff, if_false] at c2
      obtain ⟨q0, q1, q2⟩ := hT3
      clear hMv hM3 hM3v ha3 hb3 hv3 hm3 t0 t1 t2
      go_wp2_with fail
      refine wp_region_quiet_last (C := fun w' => ∃ n, w' = w3.drewN n) (by kernel_rfl) (by kernel_rfl) ⟨1, rfl⟩ ?_
      repeat (refine wpQL_step (fun K hK => ?_); go_simp; refine hK _ ?_; clear hK K)
      refine wpQL_one ?_
      rintro _ ⟨n, rfl⟩
      refine wpList_mapG rfl _ _ _ rfl M C x (by simp [Act.eval]) (HM3.out.below (below_drewN (Below.refl _ _) n)) (by simp [Act.eval, Gt.v]) (by simp [Act.eval]) HIX.out ?_
      intro w4 hm4 hg4
      have hbn : Below w3.heap.size w3 (w3.drewN n) := below_drewN (Below.refl _ _) n
      have H4 := Lib.hid (show MkS w4 G v3 3 (shC p M) (C ++ [x]) ∧ Below B w w4 ∧ Apt G M v w w4 ∧ Moves v v3 w ∧ MapG w4 M (C ++ [x]) by
        have hz := H3.out.2.1.size
        refine ⟨⟨(H3.out.1.sh.below hbn).grown (u := .slice (some ⟨M, 0, none⟩) 0 0) hg4 (by simp [Value.ownBlock]; omega), World.ownsRow.kept (row := some M) (H3.out.1.row.below hbn) hg4 (.inr HMV.out)⟩, ?_, ?_, H3.out.2.2.2, hm4⟩
        · exact (H3.out.2.1.trans (hbn.mono (by omega))).trans ⟨hg4.os, hg4.tape, hg4.output, hg4.size, fun k hk => hg4.block k (by have := hbn.size; omega) (fun e => by injection e with e; omega)⟩
        · intro b hb h1 h2 h3
          exact (hg4.block b (by have := hbn.size; omega) (fun e => by injection e with e; omega)).trans ((hbn.block b (by omega)).trans (H3.out.2.2.1 b hb h1 h2 h3)))
      clear hbn hm4 hg4 c2 q0 q1 q2
      go_wp2_with fail
      go_ret
      exact ⟨⟨_, rfl, H4.out.1, H4.out.2.1, H4.out.2.2.1, H4.out.2.2.2.1⟩, H4.out.2.2.2.2⟩
end Go.Proofs.Ytegkcfinklcglaa
namespace Go.Proofs.Ytegkcfinklcglaa
open Go.RowKit
theorem ShTo.from {B G M : Nat} {p : Int} {C : List Gt} {v : Value} {r : Int} {w w1 w' : World} {e : Ending} (h : ShTo B G M p C v r w1 e w') (hb : Below w.heap.size w w1) (hB : B ≤ w.heap.size) : ShTo B G M p C v r w e w' := ⟨h.1.from hb hB, h.2⟩
set_option maxRecDepth 100000 in
set_option maxHeartbeats 4000000 in
theorem iPutNilS (B G M : Nat) (p : Int) (v : Value) (C : List Gt) (w : World) (h : MkS w G v 3 (shC p M) C) (hm : MapG w M C) :
    Calls Try.prog 143 #[.pointer (some ⟨G, 0, none⟩), .nilIface] w (ShTo B G M p C v (-1) w) := by
  have H := Lib.hid (And.intro h hm)
  clear h hm
  go_enter Try.func143, Try.ntmps143
  go_wp2_with fail
  go_ret
  exact ⟨⟨_, rfl, H.out.1, Below.refl _ _, Apt.of_below (Below.refl _ _), .inl rfl⟩, H.out.2⟩
set_option maxRecDepth 100000 in
set_option maxHeartbeats 8000000 in
theorem iPutF (B G M : Nat) (p : Int) (hMG : M < G) (hBM : B ≤ M) : ∀ (f : Fm) (C : List Gt) (v : Value) (w : World), C.length + sizeF f ≤ 200 → MkS w G v 3 (shC p M) C → MapG w M C →
    Calls Try.prog 143 #[.pointer (some ⟨G, 0, none⟩), fmV f] w (ShTo B G M p (putF f C).2 v ((putF f C).1 : Nat) w)
  | .leaf k a, C, v, w, hC, hM, hm => by
    show Calls Try.prog 143 #[.pointer (some ⟨G, 0, none⟩), .iface 186 (.agg #[.int .i64 k, .int .i64 a, .int .i64 0])] w (ShTo B G M p (shr ⟨k, a, 0⟩ C).2 v ((shr ⟨k, a, 0⟩ C).1 : Nat) w)
    have hbn : Below w.heap.size w (w.alloc (Obj.cells #[.int .i64 k, .int .i64 a, .int .i64 0] 186)) := Below.alloc (Below.refl _ _) (Nat.le_refl _) _
    have hlt := hM.sh.lt
    have HG := Lib.hid ((iShare B G M p v C ⟨k, a, 0⟩ _ (by omega) hMG hBM (hM.below hbn) (hm.below hbn)).mono fun e w' h => h.from hbn (by omega))
    obtain ⟨⟨x1, C1⟩, hX1⟩ : ∃ X, X = shr ⟨k, a, 0⟩ C := ⟨_, rfl⟩
    rw [← hX1] at HG ⊢
    simp only at HG ⊢
    clear hM hm hX1 hbn
    go_enter Try.func143, Try.ntmps143
    go_wp2_with fail
    refine HG.out.mono ?_
    rintro e w2 ⟨⟨v2, rfl, h1, h2, h3, h4⟩, h5⟩
    have H := Lib.hid (And.intro h1 (And.intro h2 (And.intro h3 (And.intro h4 h5))))
    clear h1 h2 h3 h4 h5
    go_wp2_with fail
    go_ret
    exact ⟨⟨_, rfl, H.out.1, H.out.2.1, H.out.2.2.1, H.out.2.2.2.1⟩, H.out.2.2.2.2⟩
  | .pair k f g, C, v, w, hC, hM, hm => by
    have hsz : sizeF (.pair k f g) = 1 + sizeF f + sizeF g := rfl
    rw [hsz] at hC
    have pf1 := putF_facts f C
    have pf2 := putF_facts g (putF f C).2
    show Calls Try.prog 143 #[.pointer (some ⟨G, 0, none⟩), .iface 188 (.agg #[.int .i64 k, fmV f, fmV g])] w (ShTo B G M p (shr ⟨k, ((putF f C).1 : Nat), ((putF g (putF f C).2).1 : Nat)⟩ (putF g (putF f C).2).2).2 v ((shr ⟨k, ((putF f C).1 : Nat), ((putF g (putF f C).2).1 : Nat)⟩ (putF g (putF f C).2).2).1 : Nat) w)
    obtain ⟨W, hW⟩ : ∃ W, W = w.alloc (Obj.cells #[.int .i64 k, fmV f, fmV g] 188) := ⟨_, rfl⟩
    have bW : Below w.heap.size w W := by rw [hW]; exact Below.alloc (Below.refl _ _) (Nat.le_refl _) _
    have hsW : w.heap.size < W.heap.size := by rw [hW]; simp
    have c0 : W.cell? ⟨w.heap.size, 0, none⟩ = some (.int .i64 k) := by rw [hW]; simp [go_sem]
    have c1 : W.cell? ⟨w.heap.size, 1, none⟩ = some (fmV f) := by rw [hW]; simp [go_sem]
    have c2 : W.cell? ⟨w.heap.size, 2, none⟩ = some (fmV g) := by rw [hW]; simp [go_sem]
    have hlt := hM.sh.lt
    have hvn := hM.old (Nat.le_refl _)
    have IF := Lib.hid (iPutF B G M p hMG hBM f C v W (by omega) (hM.below bW) (hm.below bW))
    have IG := Lib.hid (fun v' w' h h' => iPutF B G M p hMG hBM g (putF f C).2 v' w' (by omega) h h')
    have hBw : B ≤ w.heap.size := by omega
    have HbW := Lib.hid bW
    obtain ⟨⟨x1, C1⟩, hX1⟩ : ∃ X, X = putF f C := ⟨_, rfl⟩
    rw [← hX1] at IF IG pf1 pf2 ⊢
    simp only at IF IG pf1 pf2 ⊢
    obtain ⟨⟨x2, C2⟩, hX2⟩ : ∃ X, X = putF g C1 := ⟨_, rfl⟩
    rw [← hX2] at IG pf2 ⊢
    simp only at IG pf2 ⊢
    have HSH := Lib.hid (fun v' w' h h' => iShare B G M p v' C2 ⟨k, (x1 : Nat), (x2 : Nat)⟩ w' (by omega) hMG hBM h h')
    obtain ⟨⟨x3, C3⟩, hX3⟩ : ∃ X, X = shr ⟨k, (x1 : Nat), (x2 : Nat)⟩ C2 := ⟨_, rfl⟩
    rw [← hX3] at HSH ⊢
    simp only at HSH ⊢
    obtain ⟨ft, fv, hfe⟩ := fmV_is f
    obtain ⟨gt, gv, hge⟩ := fmV_is g
    rw [hfe] at IF c1 hW ⊢
    rw [hge] at IG c2 hW ⊢
    have HW := Lib.hid hW
    clear hM hm hX1 hX2 hX3 bW hfe hge pf1 pf2 hC hsz hW
    go_enter Try.func143, Try.ntmps143
    go_wp2_with fail
    rw [← HW.out]
    refine IF.out.mono ?_
    rintro e w1 ⟨⟨v1, rfl, h1, h2, h3, h4⟩, h5⟩
    have H1 := Lib.hid (And.intro h1 (And.intro h2 (And.intro h3 (And.intro h4 h5))))
    have hs1 := h2.size
    replace c0 := h3.get (n := w.heap.size) hsW (by omega) (by omega) hvn c0
    replace c1 := h3.get (n := w.heap.size) hsW (by omega) (by omega) hvn c1
    replace c2 := h3.get (n := w.heap.size) hsW (by omega) (by omega) hvn c2
    have hvn1 := h4.ne hsW hvn
    clear h1 h2 h3 h4 h5
    go_wp2_with fail
    refine (IG.out _ _ H1.out.1 H1.out.2.2.2.2).mono ?_
    rintro e w2 ⟨⟨v2, rfl, h1, h2, h3, h4⟩, h5⟩
    have H2 := Lib.hid (And.intro h1 (And.intro (H1.out.2.1.trans h2) (And.intro (H1.out.2.2.1.trans h3 H1.out.2.2.2.1 hs1) (And.intro (H1.out.2.2.2.1.trans h4 hs1) h5))))
    have hs2 := H2.out.2.1.size
    replace c0 := h3.get (n := w.heap.size) (by omega) (by omega) (by omega) hvn1 c0
    clear h1 h2 h3 h4 h5 c1 c2
    go_wp2_with fail
    refine (HSH.out _ _ H2.out.1 H2.out.2.2.2.2).mono ?_
    rintro e w3 ⟨⟨v3, rfl, h1, h2, h3, h4⟩, h5⟩
    have H3 := Lib.hid (show ShTo B G M p C3 v (x3 : Nat) w (.returned (.int .i64 (x3 : Nat))) w3 from
      ShTo.from (w1 := W) ⟨⟨v3, rfl, h1, H2.out.2.1.trans h2, H2.out.2.2.1.trans h3 H2.out.2.2.2.1 hs2, H2.out.2.2.2.1.trans h4 hs2⟩, h5⟩ HbW.out hBw)
    clear h1 h2 h3 h4 h5 c0
    go_wp2_with fail
    go_ret
    exact H3.out
set_option maxRecDepth 100000 in
set_option maxHeartbeats 4000000 in
theorem iCircuitOfFormula (p : Int) (s : ByteArray) (w : World) :
    Calls Try.prog 67 #[.int .i64 p, .string s] w (GivesGB (cofV p s) (foF p s).isSome w) := by
  obtain ⟨W, hW⟩ : ∃ W, W = (w.alloc (.map #[] 0)).alloc (Obj.cells #[.slice none 0 0, .int .i64 p, .map (some w.heap.size)] 144) := ⟨_, rfl⟩
  have bW : Below w.heap.size w W := by rw [hW]; exact Below.alloc (Below.alloc (Below.refl _ _) (Nat.le_refl _) _) (by simp) _
  have HM := Lib.hid (show MkS W (w.heap.size + 1) (.slice none 0 0) 3 (shC p w.heap.size) [] ∧ MapG W w.heap.size [] by
    rw [hW]
    refine ⟨⟨⟨by simp [go_sem], fun i h1 h2 => ?_, by simp [go_sem], by simp, fun i h1 h2 => World.frozen?_alloc_at _ _ _ i (by simp)⟩, RowGt.nil _ _⟩, ?_⟩
    · have : i = 1 ∨ i = 2 := by omega
      rcases this with rfl | rfl <;> simp [go_sem, shC]
    · exact ((Go.MapKept.heap_alloc (w.alloc (.map #[] 0)) _).2 w.heap.size (by simp)).trans (Go.MapKept.heap_alloc w (.map #[] 0)).1)
  have HbW := Lib.hid bW
  have HF := Lib.hid (iFormulaOf p s)
  have HP := Lib.hid (fun w' (hb : Below W.heap.size W w') => show ∃ r, Calls Try.prog 143 #[.pointer (some ⟨w.heap.size + 1, 0, none⟩), optV (foF p s)] w' (ShTo w.heap.size (w.heap.size + 1) w.heap.size p (cofV p s) (.slice none 0 0) r w') by
    unfold cofV
    cases h : foF p s with
    | none => exact ⟨_, iPutNilS _ _ _ p _ _ w' (HM.out.1.below hb) (HM.out.2.below hb)⟩
    | some f => exact ⟨_, iPutF w.heap.size (w.heap.size + 1) w.heap.size p (Nat.lt_succ_self _) (Nat.le_refl _) f [] _ w' (by have := foF_size h; simp; omega) (HM.out.1.below hb) (HM.out.2.below hb)⟩)
  have hcv : circB p (cofV p s) = (foF p s).isSome := by
    cases h : foF p s with
    | none => unfold cofV; rw [h]; exact circB_nil p
    | some f => rw [cofV_circ h]; rfl
  have HCV := Lib.hid hcv
  have hlen : (cofV p s).length ≤ 60 := by
    cases h : foF p s with
    | none => unfold cofV; rw [h]; simp
    | some f => exact (circB_iff.1 (cofV_circ h)).2.2.1
  obtain ⟨u, hu⟩ : ∃ u, u = optV (foF p s) := ⟨_, rfl⟩
  have HN := Lib.hid (show (foF p s).isSome = false → cofV p s = [] by
    intro h
    unfold cofV
    cases h2 : foF p s with
    | none => rfl
    | some f => rw [h2] at h; cases h)
  obtain ⟨b, hb⟩ : ∃ b, b = (foF p s).isSome := ⟨_, rfl⟩
  obtain ⟨C, hC⟩ : ∃ C, C = cofV p s := ⟨_, rfl⟩
  rw [← hu] at HF HP
  rw [← hb] at HCV HN ⊢
  rw [← hC] at HP HCV HN hlen ⊢
  have HW := Lib.hid hW
  have hmm := @run_makeMap Try.prog
  clear hW bW hu hb hC hcv
  go_enter Try.func67, Try.ntmps67
  go_wp2_with fail
  rw [← HW.out]
  refine (HF.out _).mono ?_
  rintro e w1 ⟨rfl, hb1⟩
  obtain ⟨r, hp⟩ := HP.out w1 hb1
  have HP1 := Lib.hid hp
  have HB1 := Lib.hid (HbW.out.trans (hb1.mono HbW.out.size))
  clear hb1 hp hmm
  go_wp2_with fail
  refine HP1.out.mono ?_
  rintro e w2 ⟨⟨v2, rfl, h1, h2, h3, h4⟩, h5⟩
  have HG2 := Lib.hid ((h1.row.mono (show w.heap.size ≤ w.heap.size + 1 + 1 by omega)).own (by omega))
  have HMD := Lib.hid (iMade (w.heap.size + 1) p v2 C w2 ⟨h1.sh.c0, h1.sh.oth 1 (by omega) (by omega), h1.sh.f0, h1.sh.lt⟩ HG2.out.gats)
  rw [HCV.out] at HMD
  have HB2 := Lib.hid (HB1.out.trans h2)
  obtain ⟨a2, k2, rfl⟩ := h1.slice
  clear h1 h2 h3 h4 h5
  go_wp2_with fail
  cases b
  · have e1 : madeV p C (.slice a2 C.length k2) = .slice none 0 0 := by unfold madeV; rw [HCV.out]; rfl
    rw [e1] at HMD
    have e2 := HN.out rfl
    refine HMD.out.mono ?_
    rintro e w3 ⟨rfl, hb3⟩
    have HB3 := Lib.hid (HB2.out.trans (hb3.mono HB2.out.size))
    clear hb3
    go_wp2_with fail
    refine bodyPost_ret (results_tmp2 rfl _ _ _) rfl ?_
    rw [e2]
    exact ⟨_, rfl, (RowGt.nil w3 w.heap.size).own (by simp), HB3.out⟩
  · have e1 : madeV p C (.slice a2 C.length k2) = .slice a2 C.length k2 := by unfold madeV; rw [HCV.out]; rfl
    rw [e1] at HMD
    refine HMD.out.mono ?_
    rintro e w3 ⟨rfl, hb3⟩
    have HB3 := Lib.hid (And.intro (HG2.out.below hb3) (HB2.out.trans (hb3.mono HB2.out.size)))
    clear hb3
    go_wp2_with fail
    refine bodyPost_ret (results_tmp2 rfl _ _ _) rfl ?_
    exact ⟨_, rfl, HB3.out.1, HB3.out.2⟩
end Go.Proofs.Ytegkcfinklcglaa
