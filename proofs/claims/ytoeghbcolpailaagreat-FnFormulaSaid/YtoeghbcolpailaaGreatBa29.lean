/-
  EvalFormula, of the model and of the program, and the walk of its exact law. Conditions: none.
  The program's EvalFormula, and the walk of its exact law. Conditions: none.
-/
import Derived.Test.YtoeghbcolpailaaGreatBa17
import Derived.Test.YtoeghbcolpailaaGreatBa28
namespace Go.Proofs.YtoeghbcolpailaaGreat
open Go.RowKit
/-- the value of a formula at a point -/
def evF (p x y z : Int) : Fm → Int
  | .leaf k a => if k = 0 then coord x y z a else a
  | .pair k f g => if k = 2 then (evF p x y z f + evF p x y z g) % p else (evF p x y z f * evF p x y z g) % p
/-- a formula of signs of a field -/
def okF (p : Int) : Fm → Prop
  | .leaf k a => (k = 0 ∧ (a = 0 ∨ a = 1 ∨ a = 2)) ∨ (k = 1 ∧ 0 ≤ a ∧ a < p)
  | .pair k f g => (k = 2 ∨ k = 3) ∧ okF p f ∧ okF p g
theorem leafB_ok {p : Int} {c : UInt8} {k a : Int} (h : leafB p c = some (k, a)) : okF p (.leaf k a) := by
  unfold leafB at h
  split at h
  · rename_i h0
    injection h with h
    injection h with h1 h2
    subst h1 h2
    have e : -1 ≤ Lib.indexByte letB c ∧ Lib.indexByte letB c < 3 := by
      refine ⟨Lib.indexByte_ge _ _, ?_⟩
      have : c ∈ letB := by
        have e := Lib.contains_iff_indexByte letB c
        rw [decide_eq_true h0] at e
        simpa using e
      have : c = 120 ∨ c = 121 ∨ c = 122 := by simpa [letB] using this
      rcases this with rfl | rfl | rfl <;> decide
    exact .inl ⟨rfl, by omega⟩
  · split at h
    · rename_i h0
      injection h with h
      injection h with h1 h2
      subst h1 h2
      exact .inr ⟨rfl, h0.1, h0.2⟩
    · cases h
theorem parseF_ok {p : Int} : ∀ {n : Nat} {t t1 : List UInt8} {f : Fm}, parseF p n t = some (f, t1) → okF p f
  | 0, _, _, _, h => by simp [parseF] at h
  | n + 1, [], _, _, h => by simp [parseF] at h
  | n + 1, c :: t, t1, f, h => by
    simp only [parseF] at h
    split at h
    · cases h1 : parseF p n t with
      | none => rw [h1] at h; simp at h
      | some r1 =>
        obtain ⟨f1, u1⟩ := r1
        rw [h1] at h
        simp only at h
        cases h2 : parseF p n u1 with
        | none => rw [h2] at h; simp at h
        | some r2 =>
          obtain ⟨f2, u2⟩ := r2
          rw [h2] at h
          simp at h
          obtain ⟨rfl, rfl⟩ := h
          exact ⟨by unfold kindB; split <;> simp, parseF_ok h1, parseF_ok h2⟩
    · cases h1 : leafB p c with
      | none => rw [h1] at h; simp at h
      | some r1 =>
        rw [h1] at h
        simp at h
        obtain ⟨rfl, rfl⟩ := h
        exact leafB_ok h1
theorem formF_ok {p : Int} {t : List UInt8} {f : Fm} (h : formF p t = some f) : okF p f := by
  unfold formF at h
  cases h1 : parseF p t.length t with
  | none => rw [h1] at h; simp at h
  | some r =>
    obtain ⟨g, u⟩ := r
    rw [h1] at h
    cases u with
    | nil => simp at h; subst h; exact parseF_ok h1
    | cons c u => simp at h
theorem evF_bd {p x y z : Int} (hp : isP p = true) (he : isE3 p x y z = true) : ∀ f : Fm, okF p f → 0 ≤ evF p x y z f ∧ evF p x y z f < p
  | .leaf k a, h => by
    obtain ⟨hx, hy, hz⟩ := isE3_iff.1 he
    rcases h with ⟨rfl, rfl | rfl | rfl⟩ | ⟨rfl, h0, h1⟩
    · simpa [evF, coord] using hx
    · simpa [evF, coord] using hy
    · simpa [evF, coord] using hz
    · simpa [evF] using ⟨h0, h1⟩
  | .pair k f g, h => by
    have hb := isP_bd hp
    unfold evF
    split
    · exact ⟨Int.emod_nonneg _ (by omega), Int.emod_lt_of_pos _ (by omega)⟩
    · exact ⟨Int.emod_nonneg _ (by omega), Int.emod_lt_of_pos _ (by omega)⟩
set_option maxRecDepth 100000 in
set_option maxHeartbeats 4000000 in
theorem sGate4 (p : Int) (c : UInt8) (k a : Int) (w : World) (h : leafB p c = some (k, a)) :
    Calls Tryz.prog 43 #[.int .u8 (c.toNat : Int)] w fun e w' => e = .returned (.agg #[.int .i64 k, .int .i64 a, .int .i64 0]) ∧ Below w.heap.size w w' := by
  obtain ⟨v, hv⟩ : ∃ v, v = Lib.indexByte letB c := ⟨_, rfl⟩
  obtain ⟨d, hd⟩ : ∃ d, d = Lib.indexByte digB c := ⟨_, rfl⟩
  have H1 := Lib.hid (fun w => show Calls Tryz.prog 44 #[.string ⟨#[120, 121, 122]⟩, .int .u8 (c.toNat : Int)] w fun e w' => e = .returned (.int .i64 v) ∧ w' = w by
    rw [hv]
    exact sFind ⟨#[120, 121, 122]⟩ c w (by decide))
  have H2 := Lib.hid (fun w => show Calls Tryz.prog 44 #[.string ⟨#[48, 49, 50, 51, 52, 53, 54, 55, 56, 57, 65, 66, 67]⟩, .int .u8 (c.toNat : Int)] w fun e w' => e = .returned (.int .i64 d) ∧ w' = w by
    rw [hd]
    exact sFind ⟨#[48, 49, 50, 51, 52, 53, 54, 55, 56, 57, 65, 66, 67]⟩ c w (by decide))
  unfold leafB at h
  rw [← hv, ← hd] at h
  clear hv hd
  by_cases h0 : 0 ≤ v
  · rw [if_pos h0] at h
    injection h with h
    injection h with e1 e2
    subst e1 e2
    go_enter Tryz.func43, Tryz.ntmps43
    go_wp2_with fail
    refine (H1.out _).mono ?_
    rintro e w1 ⟨rfl, rfl⟩
    go_wp2_with fail
    refine bodyPost_ret (v := .agg #[.int .i64 0, .int .i64 v, .int .i64 0]) (by simp [results, Tryz.results43, go_sem]) rfl ⟨rfl, ?_⟩
    exact Below.alloc (Below.refl _ _) (Nat.le_refl _) _
  · rw [if_neg h0] at h
    split at h
    · injection h with h
      injection h with e1 e2
      subst e1 e2
      go_enter Tryz.func43, Tryz.ntmps43
      go_wp2_with fail
      refine (H1.out _).mono ?_
      rintro e w1 ⟨rfl, rfl⟩
      go_wp2_with fail
      refine (H2.out _).mono ?_
      rintro e w1 ⟨rfl, rfl⟩
      go_wp2_with fail
      refine bodyPost_ret (v := .agg #[.int .i64 1, .int .i64 d, .int .i64 0]) (by simp [results, Tryz.results43, go_sem]) rfl ⟨rfl, ?_⟩
      exact Below.alloc (Below.refl _ _) (Nat.le_refl _) _
    · cases h
set_option maxRecDepth 100000 in
set_option maxHeartbeats 4000000 in
theorem sValue (p x y z : Int) (s : ByteArray) (hp : isP p = true) (he : isE3 p x y z = true) (hs : s.size ≤ 1000) : ∀ (n i : Nat) (f : Fm) (t1 : List UInt8) (w : World), parseF p n (s.data.toList.drop i) = some (f, t1) → i ≤ s.size →
    Calls Tryz.prog 21 #[.int .i64 p, .string s, .int .i64 (i : Int), .agg #[.int .i64 x, .int .i64 y, .int .i64 z]] w fun e w' => e = .returned (.tuple #[.int .i64 (evF p x y z f), .int .i64 ((s.size : Int) - t1.length)]) ∧ Below w.heap.size w w'
  | n, i, f, t1, w, hpf, hi => by
    have hsl : s.data.toList.length = s.size := by rw [Array.length_toList]; rfl
    have HPT := Lib.hid (fun w1 (hb : Below (w.alloc (Obj.cells #[.int .i64 x, .int .i64 y, .int .i64 z] 23)).heap.size (w.alloc (Obj.cells #[.int .i64 x, .int .i64 y, .int .i64 z] 23)) w1) =>
      show w1.cell? ⟨w.heap.size, 0, none⟩ = some (.int .i64 x) ∧ w1.cell? ⟨w.heap.size, 1, none⟩ = some (.int .i64 y) ∧ w1.cell? ⟨w.heap.size, 2, none⟩ = some (.int .i64 z) ∧ Below w.heap.size w w1 by
        have hs : w.heap.size < (w.alloc (Obj.cells #[.int .i64 x, .int .i64 y, .int .i64 z] 23)).heap.size := by simp
        exact ⟨by rw [hb.cell (p := ⟨w.heap.size, 0, none⟩) hs]; simp [go_sem], by rw [hb.cell (p := ⟨w.heap.size, 1, none⟩) hs]; simp [go_sem], by rw [hb.cell (p := ⟨w.heap.size, 2, none⟩) hs]; simp [go_sem],
          (Below.alloc (Below.refl _ _) (Nat.le_refl _) _).trans (hb.mono (by omega))⟩)
    by_cases hlt : i < s.size
    · cases n with
      | zero => simp [parseF] at hpf
      | succ n =>
        have hdr := drop_at hlt
        obtain ⟨c, hc⟩ : ∃ c, c = s[i] := ⟨_, rfl⟩
        rw [← hc] at hdr
        have hltp : (i : Int) < (s.size : Int) := by omega
        have hi0 : (0 : Int) ≤ (i : Int) := by omega
        have hw2 : IntKind.i64.wrap ((i : Int) + 1) = (i : Int) + 1 := IntWalk.i64_in _ (by omega)
        have hcn : ((s[i].toNat : Nat) : Int) = ((c.toNat : Nat) : Int) := by rw [hc]
        have hlen : (s.data.toList.drop (i + 1)).length = s.size - (i + 1) := by rw [List.length_drop, hsl]
        rw [hdr] at hpf
        simp only [parseF] at hpf
        split at hpf
        · rename_i hsg
          cases h1 : parseF p n (s.data.toList.drop (i + 1)) with
          | none => rw [h1] at hpf; simp at hpf
          | some r1 =>
            obtain ⟨f1, u1⟩ := r1
            rw [h1] at hpf
            simp only at hpf
            cases h2 : parseF p n u1 with
            | none => rw [h2] at hpf; simp at hpf
            | some r2 =>
              obtain ⟨f2, u2⟩ := r2
              rw [h2] at hpf
              simp at hpf
              obtain ⟨rfl, rfl⟩ := hpf
              have e1 := parseF_drop h1
              have l1 := parseF_len h1
              have e2 : u1 = s.data.toList.drop (s.size - u1.length) := by
                rw [List.drop_drop] at e1
                rw [show s.size - u1.length = i + 1 + ((s.data.toList.drop (i + 1)).length - u1.length) by omega]
                exact e1
              have hcast : ((i + 1 : Nat) : Int) = (i : Int) + 1 := by omega
              have hcast2 : ((s.size - u1.length : Nat) : Int) = (s.size : Int) - u1.length := by omega
              have IH1 := Lib.hid (fun w => hcast ▸ sValue p x y z s hp he hs n (i + 1) f1 u1 w h1 (by omega))
              have h2' : parseF p n (s.data.toList.drop (s.size - u1.length)) = some (f2, u2) := by rw [← e2]; exact h2
              have IH2 := Lib.hid (fun w => hcast2 ▸ sValue p x y z s hp he hs n (s.size - u1.length) f2 u2 w h2' (by omega))
              have b1 := evF_bd hp he f1 (parseF_ok h1)
              have b2 := evF_bd hp he f2 (parseF_ok h2)
              have hpb := isP_bd hp
              have hev : evF p x y z (.pair (kindB c) f1 f2) = if kindB c = 2 then (evF p x y z f1 + evF p x y z f2) % p else (evF p x y z f1 * evF p x y z f2) % p := rfl
              rw [hev]
              obtain ⟨a, ha⟩ : ∃ a, a = evF p x y z f1 := ⟨_, rfl⟩
              obtain ⟨b, hb⟩ : ∃ b, b = evF p x y z f2 := ⟨_, rfl⟩
              obtain ⟨j, hj⟩ : ∃ j : Int, j = (s.size : Int) - u1.length := ⟨_, rfl⟩
              obtain ⟨k, hk⟩ : ∃ k : Int, k = (s.size : Int) - u2.length := ⟨_, rfl⟩
              rw [← ha] at b1 IH1 ⊢
              rw [← hb] at b2 IH2 ⊢
              rw [← hj] at IH1 IH2
              rw [← hk] at IH2 ⊢
              have hq0 : 0 ≤ a * b := Int.mul_nonneg b1.1 b2.1
              have hq1 : a * b ≤ 13 * 13 := Int.mul_le_mul (by omega) (by omega) b2.1 (by omega)
              have hs0 : 0 ≤ a + b := by omega
              have hwm : IntKind.i64.wrap (a * b) = a * b := IntWalk.i64_in _ (by omega)
              have hwa : IntKind.i64.wrap (a + b) = a + b := IntWalk.i64_in _ (by omega)
              have hp0 : 0 < p := by omega
              have hcs : c = 43 ∨ c = 42 := by simpa [signB] using hsg
              clear hdr hc hlen h1 h2 h2' e1 l1 e2 hcast hcast2 hev ha hb hj hk hsg hq1
              go_enter Tryz.func21, Tryz.ntmps21
              rcases hcs with rfl | rfl
              · rw [show (((43 : UInt8).toNat : Nat) : Int) = 43 from rfl] at hcn
                rw [show kindB 43 = 2 from rfl, if_pos rfl]
                go_wp2_with fail
                refine (IH1.out _).mono ?_
                rintro e w1 ⟨rfl, hb1⟩
                obtain ⟨q0, q1, q2, hB1⟩ := HPT.out _ hb1
                have HB1 := Lib.hid hB1
                clear hb1 hB1
                go_wp2_with fail
                refine (IH2.out _).mono ?_
                rintro e w2 ⟨rfl, hb2⟩
                have HB2 := Lib.hid (HB1.out.trans (hb2.mono HB1.out.size))
                clear hb2 q0 q1 q2
                go_wp2_with fail
                refine bodyPost_ret (results_tmp2 rfl _ _ _) rfl ?_
                exact ⟨rfl, HB2.out⟩
              · rw [show (((42 : UInt8).toNat : Nat) : Int) = 42 from rfl] at hcn
                rw [show kindB 42 = 3 from rfl, if_neg (by decide)]
                go_wp2_with fail
                refine (IH1.out _).mono ?_
                rintro e w1 ⟨rfl, hb1⟩
                obtain ⟨q0, q1, q2, hB1⟩ := HPT.out _ hb1
                have HB1 := Lib.hid hB1
                clear hb1 hB1
                go_wp2_with fail
                refine (IH2.out _).mono ?_
                rintro e w2 ⟨rfl, hb2⟩
                have HB2 := Lib.hid (HB1.out.trans (hb2.mono HB1.out.size))
                clear hb2 q0 q1 q2
                go_wp2_with fail
                refine bodyPost_ret (results_tmp2 rfl _ _ _) rfl ?_
                exact ⟨rfl, HB2.out⟩
        · rename_i hsg
          cases h1 : leafB p c with
          | none => rw [h1] at hpf; simp at hpf
          | some r1 =>
            obtain ⟨k, a⟩ := r1
            rw [h1] at hpf
            simp at hpf
            obtain ⟨rfl, rfl⟩ := hpf
            have HG := Lib.hid (fun w => sGate4 p c k a w h1)
            have hok := leafB_ok h1
            have n43 : ¬ ((c.toNat : Nat) : Int) = 43 := byte_ne (b := 43) (fun e => by rw [e] at hsg; simp [signB] at hsg)
            have n42 : ¬ ((c.toNat : Nat) : Int) = 42 := byte_ne (b := 42) (fun e => by rw [e] at hsg; simp [signB] at hsg)
            have b43 : (((c.toNat : Nat) : Int) != 43) = true := bne_iff_ne.2 n43
            have b42 : (((c.toNat : Nat) : Int) != 42) = true := bne_iff_ne.2 n42
            have hend : (s.size : Int) - ((s.data.toList.drop (i + 1)).length : Nat) = (i : Int) + 1 := by rw [hlen]; omega
            rw [hend]
            have hev : evF p x y z (.leaf k a) = if k = 0 then coord x y z a else a := rfl
            rw [hev]
            clear hdr hc hlen h1 hsg hend hev
            go_enter Tryz.func21, Tryz.ntmps21
            rcases hok with ⟨rfl, ha⟩ | ⟨rfl, ha0, ha1⟩
            · rw [if_pos rfl]
              go_wp2_with fail
              refine (HG.out _).mono ?_
              rintro e w1 ⟨rfl, hb1⟩
              obtain ⟨q0, q1, q2, hB1⟩ := HPT.out _ hb1
              have hs1 : w.heap.size < w1.heap.size := Nat.lt_of_lt_of_le (by simp) hb1.size
              have HB1 := Lib.hid hB1
              clear hb1 hB1
              rcases ha with rfl | rfl | rfl
              · go_wp2_with fail
                refine bodyPost_ret (results_tmp2 rfl _ _ _) rfl ?_
                exact ⟨rfl, Below.alloc HB1.out HB1.out.size _⟩
              · go_wp2_with fail
                refine bodyPost_ret (results_tmp2 rfl _ _ _) rfl ?_
                exact ⟨rfl, Below.alloc HB1.out HB1.out.size _⟩
              · go_wp2_with fail
                refine bodyPost_ret (results_tmp2 rfl _ _ _) rfl ?_
                exact ⟨rfl, Below.alloc HB1.out HB1.out.size _⟩
            · rw [if_neg (by decide)]
              go_wp2_with fail
              refine (HG.out _).mono ?_
              rintro e w1 ⟨rfl, hb1⟩
              obtain ⟨q0, q1, q2, hB1⟩ := HPT.out _ hb1
              have HB1 := Lib.hid hB1
              clear hb1 hB1
              go_wp2_with fail
              refine bodyPost_ret (results_tmp2 rfl _ _ _) rfl ?_
              exact ⟨rfl, Below.alloc HB1.out HB1.out.size _⟩
    · rw [List.drop_eq_nil_of_le (by omega)] at hpf
      cases n <;> simp [parseF] at hpf
termination_by n _ _ _ => n
/-- what EvalFormula returns -/
def evfV (p x y z : Int) (s : ByteArray) : Int := match foF p s with
  | none => -1
  | some f => if isE3 p x y z = true then evF p x y z f else -1
set_option maxRecDepth 100000 in
set_option maxHeartbeats 4000000 in
theorem sEvalFormula (p x y z : Int) (s : ByteArray) (w : World) :
    Calls Tryz.prog 6 #[.int .i64 p, .string s, .agg #[.int .i64 x, .int .i64 y, .int .i64 z]] w fun e w' => e = .returned (.int .i64 (evfV p x y z s)) ∧ Below w.heap.size w w' := by
  have HF := Lib.hid (sFormulaValid p s)
  have hP0 : PtAt (w.alloc (Obj.cells #[.int .i64 x, .int .i64 y, .int .i64 z] 23)) w.heap.size x y z := by refine ⟨?_, ?_, ?_⟩ <;> simp [go_sem]
  have HPT := Lib.hid (fun w1 (hb : Below (w.alloc (Obj.cells #[.int .i64 x, .int .i64 y, .int .i64 z] 23)).heap.size (w.alloc (Obj.cells #[.int .i64 x, .int .i64 y, .int .i64 z] 23)) w1) =>
    show PtAt w1 w.heap.size x y z ∧ Below w.heap.size w w1 by
      have hs : w.heap.size < (w.alloc (Obj.cells #[.int .i64 x, .int .i64 y, .int .i64 z] 23)).heap.size := by simp
      exact ⟨hP0.below hb hs, (Below.alloc (Below.refl _ _) (Nat.le_refl _) _).trans (hb.mono (by omega))⟩)
  clear hP0
  cases h : foF p s with
  | none =>
    have e : evfV p x y z s = -1 := by unfold evfV; rw [h]
    have e2 : fokB p s = false := by rw [fokB_some, h]; rfl
    rw [e]
    rw [e2] at HF
    clear h e e2
    go_enter Tryz.func6, Tryz.ntmps6
    go_wp2_with fail
    refine (HF.out _).mono ?_
    rintro e w1 ⟨rfl, hb1⟩
    have HB := Lib.hid (HPT.out _ hb1).2
    clear hb1
    go_wp2_with fail
    go_ret
    exact ⟨rfl, HB.out⟩
  | some f =>
    have e2 : fokB p s = true := by rw [fokB_some, h]; rfl
    rw [e2] at HF
    obtain ⟨hp, hs, hf⟩ := foF_some h
    cases he : isE3 p x y z
    · have e : evfV p x y z s = -1 := by unfold evfV; rw [h]; simp [he]
      rw [e]
      have HE := Lib.hid he
      have HP := Lib.hid hp
      clear h e e2 hf he hp
      go_enter Tryz.func6, Tryz.ntmps6
      go_wp2_with fail
      refine (HF.out _).mono ?_
      rintro e w1 ⟨rfl, hb1⟩
      have HB := Lib.hid (HPT.out _ hb1)
      clear hb1
      go_wp2_with fail
      refine (sEl3 false p x y z HP.out HE.out _ _ HB.out.1).mono ?_
      rintro e w2 ⟨rfl, rfl⟩
      go_wp2_with fail
      go_ret
      exact ⟨rfl, HB.out.2⟩
    · have e : evfV p x y z s = evF p x y z f := by unfold evfV; rw [h]; simp [he]
      rw [e]
      have hw : parseF p s.size (s.data.toList.drop 0) = some (f, []) := by
        unfold formF at hf
        rw [Array.length_toList] at hf
        rw [List.drop_zero]
        show parseF p s.data.size _ = _
        cases h1 : parseF p s.data.size s.data.toList with
        | none => rw [h1] at hf; simp at hf
        | some r =>
          obtain ⟨g, u⟩ := r
          rw [h1] at hf
          cases u with
          | nil => simp at hf; rw [hf]
          | cons c u => simp at hf
      have HV := Lib.hid (fun w => sValue p x y z s hp he (by omega) s.size 0 f [] w hw (by omega))
      have HE := Lib.hid he
      have HP := Lib.hid hp
      obtain ⟨r, hr⟩ : ∃ r, r = evF p x y z f := ⟨_, rfl⟩
      obtain ⟨k, hk⟩ : ∃ k : Int, k = (s.size : Int) - (([] : List UInt8).length : Nat) := ⟨_, rfl⟩
      rw [← hr, ← hk] at HV
      rw [← hr]
      clear h e e2 hf he hp hw hr hk
      go_enter Tryz.func6, Tryz.ntmps6
      go_wp2_with fail
      refine (HF.out _).mono ?_
      rintro e w1 ⟨rfl, hb1⟩
      have HB := Lib.hid (HPT.out _ hb1)
      clear hb1
      go_wp2_with fail
      refine (sEl3 true p x y z HP.out HE.out _ _ HB.out.1).mono ?_
      rintro e w2 ⟨rfl, rfl⟩
      obtain ⟨q0, q1, q2⟩ := HB.out.1
      go_wp2_with fail
      refine (HV.out _).mono ?_
      rintro e w2 ⟨rfl, hb2⟩
      have HB2 := Lib.hid (HB.out.2.trans (hb2.mono HB.out.2.size))
      clear hb2 q0 q1 q2
      go_wp2_with fail
      go_ret
      exact ⟨rfl, HB2.out⟩
end Go.Proofs.YtoeghbcolpailaaGreat
namespace Go.Proofs.YtoeghbcolpailaaGreat
open Go.RowKit
set_option maxRecDepth 100000 in
set_option maxHeartbeats 4000000 in
theorem iPairGate (k : Int) (u v : Value) (_ : u.oneCell' = true) (_ : v.oneCell' = true) (w : World) :
    Calls Tryz.prog 40 #[.agg #[.int .i64 k, u, v]] w fun e w' => e = .returned (.agg #[.int .i64 k, .int .i64 0, .int .i64 1]) ∧ Below w.heap.size w w' := by
  go_enter Tryz.func40, Tryz.ntmps40
  go_wp2_with fail
  refine bodyPost_ret (v := .agg #[.int .i64 k, .int .i64 0, .int .i64 1]) (by simp [results, Tryz.results40, go_sem]) rfl ⟨rfl, ?_⟩
  repeat (first | exact Below.refl _ _ | (refine Below.setCell ?_ (by first | omega | (simp; done)) _) | (refine Below.alloc ?_ (by first | omega | (simp; done)) _))
/-- what valueAt's region needs to read -/
structure VaW (P : Nat) (x y z k : Int) (u v : Value) (w wr : World) : Prop where
  c0 : wr.cell? ⟨P, 0, none⟩ = some (.int .i64 x)
  c1 : wr.cell? ⟨P, 1, none⟩ = some (.int .i64 y)
  c2 : wr.cell? ⟨P, 2, none⟩ = some (.int .i64 z)
  d0 : wr.cell? ⟨P + 1, 0, none⟩ = some (.int .i64 k)
  d1 : wr.cell? ⟨P + 1, 1, none⟩ = some u
  d2 : wr.cell? ⟨P + 1, 2, none⟩ = some v
  sz : P + 1 < wr.heap.size
  low : Below P w wr
theorem VaW.below {P : Nat} {x y z k : Int} {u v : Value} {w wr w1 : World} (h : VaW P x y z k u v w wr) (hb : Below wr.heap.size wr w1) : VaW P x y z k u v w w1 := by
  have s1 := h.sz
  exact ⟨by rw [hb.cell (p := ⟨P, 0, none⟩) (show P < wr.heap.size by omega)]; exact h.c0, by rw [hb.cell (p := ⟨P, 1, none⟩) (show P < wr.heap.size by omega)]; exact h.c1, by rw [hb.cell (p := ⟨P, 2, none⟩) (show P < wr.heap.size by omega)]; exact h.c2,
    by rw [hb.cell (p := ⟨P + 1, 0, none⟩) s1]; exact h.d0, by rw [hb.cell (p := ⟨P + 1, 1, none⟩) s1]; exact h.d1, by rw [hb.cell (p := ⟨P + 1, 2, none⟩) s1]; exact h.d2, Nat.lt_of_lt_of_le s1 hb.size, h.low.trans (hb.mono (by omega))⟩
theorem fmV_one' (f : Fm) {t : TypeId} {v : Value} (h : fmV f = .iface t v) : (Value.iface t v).oneCell' = true := by rw [← h]; exact fmV_one f
theorem keepVa {W1 wa : World} {P : Nat} {x y z k : Int} {u v : Value} (hb : Below W1.heap.size W1 wa) (hs : P + 1 < W1.heap.size)
    (h : W1.cell? ⟨P, 0, none⟩ = some (.int .i64 x) ∧ W1.cell? ⟨P, 1, none⟩ = some (.int .i64 y) ∧ W1.cell? ⟨P, 2, none⟩ = some (.int .i64 z) ∧ W1.cell? ⟨P + 1, 0, none⟩ = some (.int .i64 k) ∧ W1.cell? ⟨P + 1, 1, none⟩ = some u ∧ W1.cell? ⟨P + 1, 2, none⟩ = some v) :
    wa.cell? ⟨P, 0, none⟩ = some (.int .i64 x) ∧ wa.cell? ⟨P, 1, none⟩ = some (.int .i64 y) ∧ wa.cell? ⟨P, 2, none⟩ = some (.int .i64 z) ∧ wa.cell? ⟨P + 1, 0, none⟩ = some (.int .i64 k) ∧ wa.cell? ⟨P + 1, 1, none⟩ = some u ∧ wa.cell? ⟨P + 1, 2, none⟩ = some v := by
  obtain ⟨c0, c1, c2, d0, d1, d2⟩ := h
  have hp : P < W1.heap.size := by omega
  exact ⟨by rw [hb.cell (p := ⟨P, 0, none⟩) hp]; exact c0, by rw [hb.cell (p := ⟨P, 1, none⟩) hp]; exact c1, by rw [hb.cell (p := ⟨P, 2, none⟩) hp]; exact c2,
    by rw [hb.cell (p := ⟨P + 1, 0, none⟩) hs]; exact d0, by rw [hb.cell (p := ⟨P + 1, 1, none⟩) hs]; exact d1, by rw [hb.cell (p := ⟨P + 1, 2, none⟩) hs]; exact d2⟩
theorem belowA {n : Nat} {w w2 wd wa wb : World} {o : Obj} (h : Below n w w2) (hn : n ≤ w2.heap.size) (hd : Below w2.heap.size w2 wd) (ha : Below wd.heap.size wd wa) (hb : Below (wa.alloc o).heap.size (wa.alloc o) wb) : Below n w wb := by
  have e1 := hd.size
  have e2 := ha.size
  exact h.trans ((hd.mono hn).trans ((ha.mono (by omega)).trans ((Below.alloc (Below.refl _ _) (by omega) _).trans (hb.mono (by simp; omega)))))
theorem belowB {n : Nat} {w w2 wd wa wb : World} {o : Obj} (h : Below n w w2) (hn : n ≤ w2.heap.size) (hd : Below w2.heap.size w2 wd) (ha : Below (wd.alloc o).heap.size (wd.alloc o) wa) (hb : Below wa.heap.size wa wb) : Below n w wb := by
  have e1 := hd.size
  have e2 := ha.size
  simp at e2
  exact h.trans ((hd.mono hn).trans ((Below.alloc (Below.refl _ _) (by omega) _).trans ((ha.mono (by simp; omega)).trans (hb.mono (by omega)))))
set_option maxRecDepth 100000 in
set_option maxHeartbeats 4000000 in
theorem iValueNil (p x y z : Int) (w : World) : Calls Tryz.prog 18 #[.int .i64 p, .nilIface, .agg #[.int .i64 x, .int .i64 y, .int .i64 z]] w fun e w' => e = .returned (.int .i64 (-1)) ∧ Below w.heap.size w w' := by
  go_enter Tryz.func18, Tryz.ntmps18
  go_wp2_with fail
  go_ret
  exact ⟨rfl, Below.alloc (Below.refl _ _) (Nat.le_refl _) _⟩
set_option maxRecDepth 100000 in
set_option maxHeartbeats 8000000 in
theorem iValue (p x y z : Int) (hp : isP p = true) (he : isE3 p x y z = true) : ∀ (f : Fm) (w : World), okF p f →
    Calls Tryz.prog 18 #[.int .i64 p, fmV f, .agg #[.int .i64 x, .int .i64 y, .int .i64 z]] w fun e w' => e = .returned (.int .i64 (evF p x y z f)) ∧ Below w.heap.size w w'
  | .leaf k a, w, hok => by
    have hev : evF p x y z (.leaf k a) = if k = 0 then coord x y z a else a := rfl
    rw [hev]
    show Calls Tryz.prog 18 #[.int .i64 p, .iface 73 (.agg #[.int .i64 k, .int .i64 a, .int .i64 0]), .agg #[.int .i64 x, .int .i64 y, .int .i64 z]] w _
    rcases hok with ⟨rfl, ha⟩ | ⟨rfl, ha0, ha1⟩
    · rw [if_pos rfl]
      have HV := Lib.hid (fun w => iVal0 p x y z a 0 ha none 0 0 w)
      clear hev ha
      go_enter Tryz.func18, Tryz.ntmps18
      go_wp2_with fail
      refine (HV.out _).mono ?_
      rintro e w1 ⟨rfl, hb1⟩
      have HB := Lib.hid (show Below w.heap.size w w1 from (Below.alloc (Below.alloc (Below.refl _ _) (Nat.le_refl _) _) (by simp) _).trans (hb1.mono (by simp; omega)))
      clear hb1
      go_wp2_with fail
      go_ret
      exact ⟨rfl, HB.out⟩
    · rw [if_neg (by decide)]
      have HV := Lib.hid (fun w => iVal1 p x y z a 0 none 0 0 w)
      clear hev
      go_enter Tryz.func18, Tryz.ntmps18
      go_wp2_with fail
      refine (HV.out _).mono ?_
      rintro e w1 ⟨rfl, hb1⟩
      have HB := Lib.hid (show Below w.heap.size w w1 from (Below.alloc (Below.alloc (Below.refl _ _) (Nat.le_refl _) _) (by simp) _).trans (hb1.mono (by simp; omega)))
      clear hb1
      go_wp2_with fail
      go_ret
      exact ⟨rfl, HB.out⟩
  | .pair k f g, w, hok => by
    obtain ⟨hk, hof, hog⟩ := hok
    have IF := Lib.hid (fun w => iValue p x y z hp he f w hof)
    have IG := Lib.hid (fun w => iValue p x y z hp he g w hog)
    have b1 := evF_bd hp he f hof
    have b2 := evF_bd hp he g hog
    have hev : evF p x y z (.pair k f g) = if k = 2 then (evF p x y z f + evF p x y z g) % p else (evF p x y z f * evF p x y z g) % p := rfl
    rw [hev]
    show Calls Tryz.prog 18 #[.int .i64 p, .iface 76 (.agg #[.int .i64 k, fmV f, fmV g]), .agg #[.int .i64 x, .int .i64 y, .int .i64 z]] w _
    obtain ⟨a, ha⟩ : ∃ a, a = evF p x y z f := ⟨_, rfl⟩
    obtain ⟨b, hb⟩ : ∃ b, b = evF p x y z g := ⟨_, rfl⟩
    obtain ⟨ft, fv, hfe⟩ := fmV_is f
    obtain ⟨gt, gv, hge⟩ := fmV_is g
    have HO := Lib.hid (And.intro (fmV_one' f hfe) (fmV_one' g hge))
    rw [← ha, hfe] at IF
    rw [← hb, hge] at IG
    rw [← ha] at b1
    rw [← hb] at b2
    rw [← ha, ← hb, hfe, hge]
    have HV := Lib.hid (fun (g cap : Nat) w (hg : g < w.heap.size) (h0 : w.cell? ⟨g, 0, none⟩ = some (.int .i64 a)) (h1 : w.cell? ⟨g, 1, none⟩ = some (.int .i64 b)) =>
      show Calls Tryz.prog 39 #[.agg #[.int .i64 k, .int .i64 0, .int .i64 1], .int .i64 p, .agg #[.int .i64 x, .int .i64 y, .int .i64 z], .slice (some ⟨g, 0, none⟩) 2 cap] w fun e w' => e = .returned (.int .i64 (if k = 2 then (a + b) % p else (a * b) % p)) ∧ Below w.heap.size w w' by
        rcases hk with rfl | rfl
        · exact iVal2 p x y z hp 0 1 2 (by omega) (by omega) (by omega) g cap a b b1 b2 w hg h0 h1
        · exact iVal3 p x y z hp 0 1 2 (by omega) (by omega) (by omega) g cap a b b1 b2 w hg h0 h1)
    obtain ⟨r, hr⟩ : ∃ r, r = (if k = 2 then (a + b) % p else (a * b) % p) := ⟨_, rfl⟩
    rw [← hr] at HV ⊢
    clear hev ha hb hfe hge hr hk hof hog b1 b2
    go_enter Tryz.func18, Tryz.ntmps18
    go_wp2_with fail
    obtain ⟨W, hW⟩ : ∃ W, W = (w.alloc (Obj.cells #[.int .i64 x, .int .i64 y, .int .i64 z] 23)).alloc (Obj.cells #[.int .i64 k, .iface ft fv, .iface gt gv] 76) := ⟨_, rfl⟩
    have H0 : VaW w.heap.size x y z k (.iface ft fv) (.iface gt gv) w W := by
      rw [hW]
      refine ⟨?_, ?_, ?_, ?_, ?_, ?_, by simp, Below.alloc (Below.alloc (Below.refl _ _) (Nat.le_refl _) _) (by simp) _⟩ <;> simp [go_sem]
    rw [← hW]
    clear hW
    obtain ⟨n, hn⟩ : ∃ n, n = w.heap.size := ⟨_, rfl⟩
    rw [← hn] at H0 ⊢
    have HN := Lib.hid hn
    clear hn
    refine (IF.out _).mono ?_
    rintro e w1 ⟨rfl, hb1⟩
    have H1 := Lib.hid (H0.below hb1)
    clear H0 hb1
    obtain ⟨c0, c1, c2, d0, d1, d2, sz, -⟩ := H1.out
    go_wp2_with fail
    refine (IG.out _).mono ?_
    rintro e w2 ⟨rfl, hb2⟩
    have H2 := Lib.hid (H1.out.below hb2)
    clear H1 hb2 c0 c1 c2 d0 d1 d2 sz
    obtain ⟨c0, c1, c2, d0, d1, d2, sz, -⟩ := H2.out
    go_wp2_with fail
    go_region_held3 (fun w' => w'.cell? ⟨n, 0, none⟩ = some (.int .i64 x) ∧ w'.cell? ⟨n, 1, none⟩ = some (.int .i64 y) ∧ w'.cell? ⟨n, 2, none⟩ = some (.int .i64 z) ∧ w'.cell? ⟨n + 1, 0, none⟩ = some (.int .i64 k) ∧ w'.cell? ⟨n + 1, 1, none⟩ = some (.iface ft fv) ∧ w'.cell? ⟨n + 1, 2, none⟩ = some (.iface gt gv)) (first | exact keepVa hbb (by first | (simp; omega) | (have := hba.size; simp at this; simp; omega) | (have := hba.size; simp at this; omega)) (by assumption) | exact keepVa hba (by simp; omega) (by assumption) | go_keep)
      (first | (go_at_call 40; refine (iPairGate k _ _ HO.out.1 HO.out.2 _).mono ?_; rintro e wa ⟨rfl, hba⟩) | (go_at_call 39; refine (HV.out _ _ _ (by first | (simp; done) | (have := hba.size; simp at this; omega)) (by first | (simp [go_sem]; done) | (rw [hba.cell (by simp)]; simp [go_sem]; done)) (by first | (simp [go_sem]; done) | (rw [hba.cell (by simp)]; simp [go_sem]; done))).mono ?_; rintro e wb ⟨rfl, hbb⟩))
    all_goals
      have HBB := Lib.hid (show Below n w wb by
        have hsz := H2.out.sz
        first
          | exact belowA H2.out.low (by omega) (Below.drew (Below.refl _ _)) hba hbb
          | exact belowB H2.out.low (by omega) (Below.drew (Below.refl _ _)) hba hbb)
      clear hba hbb
      go_wp2_with fail
      go_ret
      exact ⟨rfl, HN.out ▸ HBB.out⟩
set_option maxRecDepth 100000 in
set_option maxHeartbeats 4000000 in
theorem iEvalFormula (p x y z : Int) (s : ByteArray) (w : World) :
    Calls Tryz.prog 5 #[.int .i64 p, .string s, .agg #[.int .i64 x, .int .i64 y, .int .i64 z]] w fun e w' => e = .returned (.int .i64 (evfV p x y z s)) ∧ Below w.heap.size w w' := by
  have HF := Lib.hid (iFormulaOf p s)
  have hP0 : PtAt (w.alloc (Obj.cells #[.int .i64 x, .int .i64 y, .int .i64 z] 23)) w.heap.size x y z := by refine ⟨?_, ?_, ?_⟩ <;> simp [go_sem]
  have hs0 : w.heap.size < (w.alloc (Obj.cells #[.int .i64 x, .int .i64 y, .int .i64 z] 23)).heap.size := by simp
  have HPT := Lib.hid (fun w1 (hb : Below (w.alloc (Obj.cells #[.int .i64 x, .int .i64 y, .int .i64 z] 23)).heap.size (w.alloc (Obj.cells #[.int .i64 x, .int .i64 y, .int .i64 z] 23)) w1) =>
    show PtAt w1 w.heap.size x y z ∧ Below w.heap.size w w1 from ⟨hP0.below hb hs0, (Below.alloc (Below.refl _ _) (Nat.le_refl _) _).trans (hb.mono (by omega))⟩)
  have HP0 := Lib.hid hP0
  clear hs0
  rcases Bool.eq_false_or_eq_true (isP p) with hp | hp
  · have HP := Lib.hid hp
    cases he : isE3 p x y z
    · have e : evfV p x y z s = -1 := by unfold evfV; cases foF p s <;> simp [he]
      rw [e]
      have HE := Lib.hid he
      clear hp e he hP0
      go_enter Tryz.func5, Tryz.ntmps5
      go_wp2_with fail
      refine (iAE3 false p x y z HP.out HE.out _ _ HP0.out).mono ?_
      rintro e w1 ⟨rfl, rfl⟩
      go_wp2_with fail
      go_ret
      exact ⟨rfl, Below.alloc (Below.refl _ _) (Nat.le_refl _) _⟩
    · have HE := Lib.hid he
      have HV := Lib.hid (fun w => show Calls Tryz.prog 18 #[.int .i64 p, optV (foF p s), .agg #[.int .i64 x, .int .i64 y, .int .i64 z]] w fun e w' => e = .returned (.int .i64 (evfV p x y z s)) ∧ Below w.heap.size w w' by
        unfold evfV
        cases h : foF p s with
        | none => exact iValueNil p x y z w
        | some f =>
          simp only [he, if_true]
          exact iValue p x y z hp he f w (formF_ok (foF_some h).2.2))
      obtain ⟨u, hu⟩ : ∃ u, u = optV (foF p s) := ⟨_, rfl⟩
      obtain ⟨r, hr⟩ : ∃ r, r = evfV p x y z s := ⟨_, rfl⟩
      rw [← hu] at HF HV
      rw [← hr] at HV ⊢
      clear hu hr hp he hP0
      go_enter Tryz.func5, Tryz.ntmps5
      go_wp2_with fail
      refine (iAE3 true p x y z HP.out HE.out _ _ HP0.out).mono ?_
      rintro e w1 ⟨rfl, rfl⟩
      obtain ⟨q0, q1, q2⟩ := HP0.out
      go_wp2_with fail
      have HQ := Lib.hid (fun w' hw => (HPT.out w' hw).1)
      have HL := Lib.hid (fun w' hw => (HPT.out w' hw).2)
      clear q0 q1 q2 HP0 HPT
      generalize (w.alloc (Obj.cells #[.int .i64 x, .int .i64 y, .int .i64 z] 23)) = W at HQ HL ⊢
      refine wp_region_below (by kernel_rfl) (by kernel_rfl) ?_
      (with_reducible refine wpQuiet_yes ?_ ?_; (focus (kernel_rfl)); intro K hK; go_simp; refine ⟨_, fun _ _ => rfl, ?_⟩; with_reducible refine hK _ ?_; clear hK K)
      (with_reducible refine wpQuiet_yes ?_ ?_; (focus (kernel_rfl)); intro K hK; go_simp; refine ⟨_, fun _ _ => rfl, ?_⟩; with_reducible refine hK _ ?_; clear hK K)
      (with_reducible refine wpQuiet_yes ?_ ?_; (focus (kernel_rfl)); intro K hK; go_simp; refine ⟨_, fun _ _ => rfl, ?_⟩; with_reducible refine hK _ ?_; clear hK K)
      (with_reducible refine wpQuiet_yes ?_ ?_; (focus (kernel_rfl)); intro K hK; go_simp; refine ⟨u, ?_, ?_⟩; rotate_left; with_reducible refine hK _ ?_; clear hK K; rotate_left)
      · intro w' hw
        exact (HF.out w').mono fun e w'' ⟨he, h⟩ => ⟨he, hw.trans (h.mono hw.size)⟩
      (with_reducible refine wpQuiet_yes ?_ ?_; (focus (kernel_rfl)); intro K hK; go_simp; refine ⟨(.agg #[.int .i64 x, .int .i64 y, .int .i64 z]), ?_, ?_⟩; rotate_left; with_reducible refine hK _ ?_; clear hK K; rotate_left)
      · intro w' hw
        obtain ⟨c0, c1, c2⟩ := HQ.out w' hw
        simp only [c0, c1, c2, go_sem, Result.andThen, and_self]
      (with_reducible refine wpQuiet_yes ?_ ?_; (focus (kernel_rfl)); intro K hK; go_simp; refine ⟨(.int .i64 r), ?_, ?_⟩; rotate_left; with_reducible refine hK _ ?_; clear hK K; rotate_left)
      · intro w' hw
        exact (HV.out w').mono fun e w'' ⟨he, h⟩ => ⟨he, hw.trans (h.mono hw.size)⟩
      (with_reducible refine wpQuiet_yes ?_ ?_; (focus (kernel_rfl)); intro K hK; go_simp; refine ⟨_, fun _ _ => rfl, ?_⟩; with_reducible refine hK _ ?_; clear hK K)
      refine wpQuiet_nil fun w2 hb2 => ?_
      have HB2 := Lib.hid (HL.out _ hb2)
      clear hb2
      simp only [Exit.then]
      go_wp2_with fail
      go_ret
      exact ⟨rfl, HB2.out⟩
  · have e : evfV p x y z s = -1 := by
      unfold evfV foF
      rw [if_neg (fun h => by rw [hp] at h; cases h.1)]
    rw [e]
    have HP := Lib.hid hp
    clear hp e hP0
    go_enter Tryz.func5, Tryz.ntmps5
    go_wp2_with fail
    refine (iAE_no p HP.out _ _).mono ?_
    rintro e w1 ⟨rfl, rfl⟩
    go_wp2_with fail
    go_ret
    exact ⟨rfl, Below.alloc (Below.refl _ _) (Nat.le_refl _) _⟩
end Go.Proofs.YtoeghbcolpailaaGreat
