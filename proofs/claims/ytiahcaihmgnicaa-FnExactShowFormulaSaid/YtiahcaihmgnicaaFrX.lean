/-
  ShowFormula, of the model and of the program, and the walk of its exact law. Conditions: none.
-/
import Derived.Test.YtiahcaihmgnicaaFrW
import Derived.Laws.BytesArg
namespace Go.Proofs.Ytiahcaihmgnicaa
open Go.RowKit
theorem sh500 {f : Fm} (h : leavesF f ≤ 60) : (shF f).size ≤ 500 := by
  have := shF_size f
  omega
theorem iText (p : Int) (hp : isP p = true) : ∀ (f : Fm) (w : World), okF p f → leavesF f ≤ 60 → Calls Try.prog (textId f) #[textV f] w fun e w' => e = .returned (.string (shF f)) ∧ Below w.heap.size w w'
  | .leaf k a, w, hok, _ => by
    have hb := isP_bd hp
    rcases hok with ⟨rfl, ha⟩ | ⟨rfl, h0, h1⟩
    · exact iGText0 a ha w
    · exact iGText1 a h0 (by omega) w
  | .pair k f g, w, hok, hl => by
    obtain ⟨hk, hof, hog⟩ := hok
    have hl' : leavesF f + leavesF g ≤ 60 := hl
    have IF := fun w => iText p hp f w hof (by omega)
    have IG := fun w => iText p hp g w hog (by omega)
    have zf := sh500 (f := f) (by omega)
    have zg := sh500 (f := g) (by omega)
    cases f with
    | leaf ka aa => cases g with
      | leaf kb ab => exact iPairLL k _ _ _ _ _ _ _ _ zf zg w rfl rfl IF IG hk
      | pair kb u v => exact iPairLP k _ _ _ _ _ _ _ _ zf zg w rfl rfl IF IG hk
    | pair ka x y => cases g with
      | leaf kb ab => exact iPairPL k _ _ _ _ _ _ _ _ zf zg w rfl rfl IF IG hk
      | pair kb u v => exact iPairPP k _ _ _ _ _ _ _ _ zf zg w rfl rfl IF IG hk
/-- what ShowFormula returns -/
def showV (p : Int) (s : ByteArray) : ByteArray := match foF p s with
  | none => ⟨#[]⟩
  | some f => shF f
set_option maxRecDepth 100000 in
set_option maxHeartbeats 4000000 in
theorem iShowFormula (p : Int) (s : ByteArray) (w : World) :
    Calls Try.prog 59 #[.int .i64 p, .string s] w fun e w' => e = .returned (.string (showV p s)) ∧ Below w.heap.size w w' := by
  have HF := Lib.hid (iFormulaOf p s)
  cases h : foF p s with
  | none =>
    rw [h] at HF
    have e : showV p s = ⟨#[]⟩ := by unfold showV; rw [h]
    rw [e]
    clear h e
    go_enter Try.func59, Try.ntmps59
    go_wp2_with fail
    refine (HF.out _).mono ?_
    rintro e w' ⟨rfl, hb⟩
    have HB := Lib.hid hb
    clear hb
    simp only [optV]
    go_wp2_with fail
    go_ret
    exact ⟨rfl, HB.out⟩
  | some f =>
    have e : showV p s = shF f := by unfold showV; rw [h]
    rw [e]
    have HT := Lib.hid (fun w => iText p (foF_some h).1 f w (formF_ok (foF_some h).2.2) (foF_leaves h))
    obtain ⟨A, hA⟩ : ∃ A, A = shF f := ⟨_, rfl⟩
    rw [h] at HF
    rw [← hA] at HT ⊢
    clear h e hA
    cases f with
    | leaf k a =>
      have HT2 := Lib.hid (show ∀ w, Calls Try.prog 192 #[.agg #[.int .i64 k, .int .i64 a, .int .i64 0]] w fun e w' => e = .returned (.string A) ∧ Below w.heap.size w w' from HT.out)
      clear HT
      go_enter Try.func59, Try.ntmps59
      go_wp2_with fail
      refine (HF.out _).mono ?_
      rintro e w' ⟨rfl, hb⟩
      have HB := Lib.hid hb
      clear hb
      simp only [optV, fmV]
      go_wp2_with fail
      refine (HT2.out _).mono ?_
      rintro e w2 ⟨rfl, hb2⟩
      have HB2 := Lib.hid (HB.out.trans (hb2.mono HB.out.size))
      clear hb2
      go_wp2_with fail
      go_ret
      exact ⟨rfl, HB2.out⟩
    | pair k u v =>
      obtain ⟨U, hU⟩ : ∃ U, U = fmV u := ⟨_, rfl⟩
      obtain ⟨V, hV⟩ : ∃ V, V = fmV v := ⟨_, rfl⟩
      have HT2 := Lib.hid (show ∀ w, Calls Try.prog 193 #[.agg #[.int .i64 k, U, V]] w fun e w' => e = .returned (.string A) ∧ Below w.heap.size w w' by rw [hU, hV]; exact HT.out)
      have HF2 := Lib.hid (show ∀ w, Calls Try.prog 101 #[.int .i64 p, .string s] w fun e w' => e = .returned (.iface 159 (.agg #[.int .i64 k, U, V])) ∧ Below w.heap.size w w' by rw [hU, hV]; exact HF.out)
      clear HT HF hU hV
      go_enter Try.func59, Try.ntmps59
      go_wp2_with fail
      refine (HF2.out _).mono ?_
      rintro e w' ⟨rfl, hb⟩
      have HB := Lib.hid hb
      clear hb
      go_wp2_with fail
      refine (HT2.out _).mono ?_
      rintro e w2 ⟨rfl, hb2⟩
      have HB2 := Lib.hid (HB.out.trans (hb2.mono HB.out.size))
      clear hb2
      go_wp2_with fail
      go_ret
      exact ⟨rfl, HB2.out⟩
theorem byte1 (w : World) (b : Nat) (c : Int) (h : w.cell? ⟨b, 0, none⟩ = some (.int .u8 c)) : (convert 178 9 (.slice (some ⟨b, 0, none⟩) 1 1)).run Try.prog w = .ok (.string ⟨#[UInt8.ofNat c.toNat]⟩) w :=
  run_convert_bytes_arg (P := Try.prog) w 178 5 (by kernel_rfl) (by kernel_rfl) b 0 1 1 [c] rfl (fun i hi => by
    have : i = 0 := by omega
    subst this
    simpa using h) 9 (by kernel_rfl)
set_option maxRecDepth 100000 in
set_option maxHeartbeats 8000000 in
theorem sDec (a : Int) (ha : a = 10 ∨ a = 11 ∨ a = 12) (w : World) : Calls Try.prog 141 #[.int .i64 a] w fun e w' => e = .returned (.string (decB a)) ∧ Below w.heap.size w w' := by
  rcases ha with rfl | rfl | rfl
  · have h1 := byte1 (w.alloc (Obj.cells #[.int .u8 48] 5)) w.heap.size 48 (by simp [go_sem])
    have h2 := byte1 ((w.alloc (Obj.cells #[.int .u8 48] 5)).alloc (Obj.cells #[.int .u8 49] 5)) (w.heap.size + 1) 49 (by simp [go_sem])
    go_enter Try.func141, Try.ntmps141
    go_wp2_with fail
    refine wp_loop_rounds 2 ?_
    rw [rounds_succ]
    go_wp2_with fail
    rw [rounds_succ]
    go_wp2_with fail
    go_ret
    exact ⟨by kernel_rfl, Below.alloc (Below.alloc (Below.refl _ _) (Nat.le_refl _) _) (by simp) _⟩
  · have h1 := byte1 (w.alloc (Obj.cells #[.int .u8 49] 5)) w.heap.size 49 (by simp [go_sem])
    have h2 := byte1 ((w.alloc (Obj.cells #[.int .u8 49] 5)).alloc (Obj.cells #[.int .u8 49] 5)) (w.heap.size + 1) 49 (by simp [go_sem])
    go_enter Try.func141, Try.ntmps141
    go_wp2_with fail
    refine wp_loop_rounds 2 ?_
    rw [rounds_succ]
    go_wp2_with fail
    rw [rounds_succ]
    go_wp2_with fail
    go_ret
    exact ⟨by kernel_rfl, Below.alloc (Below.alloc (Below.refl _ _) (Nat.le_refl _) _) (by simp) _⟩
  · have h1 := byte1 (w.alloc (Obj.cells #[.int .u8 50] 5)) w.heap.size 50 (by simp [go_sem])
    have h2 := byte1 ((w.alloc (Obj.cells #[.int .u8 50] 5)).alloc (Obj.cells #[.int .u8 49] 5)) (w.heap.size + 1) 49 (by simp [go_sem])
    go_enter Try.func141, Try.ntmps141
    go_wp2_with fail
    refine wp_loop_rounds 2 ?_
    rw [rounds_succ]
    go_wp2_with fail
    rw [rounds_succ]
    go_wp2_with fail
    go_ret
    exact ⟨by kernel_rfl, Below.alloc (Below.alloc (Below.refl _ _) (Nat.le_refl _) _) (by simp) _⟩
theorem extract_one {s : ByteArray} {i : Nat} (h : i < s.size) : s.extract i (i + 1) = ⟨#[s[i]]⟩ := by
  apply ByteArray.ext
  rw [ByteArray.data_extract]
  apply Array.ext'
  rw [Array.toList_extract, List.extract_eq_drop_take', List.drop_take, drop_at h]
  simp
set_option maxRecDepth 100000 in
set_option maxHeartbeats 8000000 in
theorem sShow (p : Int) (s : ByteArray) (hs : s.size ≤ 60) : ∀ (n i : Nat) (f : Fm) (t1 : List UInt8) (w : World), parseF p n (s.data.toList.drop i) = some (f, t1) → i ≤ s.size →
    Calls Try.prog 115 #[.string s, .int .i64 (i : Int)] w fun e w' => e = .returned (.tuple #[.string (shF f), .int .i64 ((s.size : Int) - t1.length)]) ∧ Below w.heap.size w w'
  | n, i, f, t1, w, hpf, hi => by
    have hsl : s.data.toList.length = s.size := by rw [Array.length_toList]; rfl
    by_cases hlt : i < s.size
    · cases n with
      | zero => simp [parseF] at hpf
      | succ n =>
        have hdr := drop_at hlt
        obtain ⟨c, hc⟩ : ∃ c, c = s[i] := ⟨_, rfl⟩
        rw [← hc] at hdr
        have hltp : (i : Int) < (s.size : Int) := by omega
        have hi0 : (0 : Int) ≤ (i : Int) := by omega
        have hw2 : IntKind.i64.wrap ((i : Int) + 1) = (i : Int) + 1 := IntWalk.i64_in _ (by omega)
        have hcn : ((s[i].toNat : Nat) : Int) = ((c.toNat : Nat) : Int) := by rw [hc]
        have hlen : (s.data.toList.drop (i + 1)).length = s.size - (i + 1) := by rw [List.length_drop, hsl]
        rw [hdr] at hpf
        simp only [parseF] at hpf
        split at hpf
        · rename_i hsg
          cases h1 : parseF p n (s.data.toList.drop (i + 1)) with
          | none => rw [h1] at hpf; simp at hpf
          | some r1 =>
            obtain ⟨f1, u1⟩ := r1
            rw [h1] at hpf
            simp only at hpf
            cases h2 : parseF p n u1 with
            | none => rw [h2] at hpf; simp at hpf
            | some r2 =>
              obtain ⟨f2, u2⟩ := r2
              rw [h2] at hpf
              simp at hpf
              obtain ⟨rfl, rfl⟩ := hpf
              have e1 := parseF_drop h1
              have l1 := parseF_len h1
              have e2 : u1 = s.data.toList.drop (s.size - u1.length) := by
                rw [List.drop_drop] at e1
                rw [show s.size - u1.length = i + 1 + ((s.data.toList.drop (i + 1)).length - u1.length) by omega]
                exact e1
              have hcast : ((i + 1 : Nat) : Int) = (i : Int) + 1 := by omega
              have hcast2 : ((s.size - u1.length : Nat) : Int) = (s.size : Int) - u1.length := by omega
              have IH1 := Lib.hid (fun w => hcast ▸ sShow p s hs n (i + 1) f1 u1 w h1 (by omega))
              have h2' : parseF p n (s.data.toList.drop (s.size - u1.length)) = some (f2, u2) := by rw [← e2]; exact h2
              have IH2 := Lib.hid (fun w => hcast2 ▸ sShow p s hs n (s.size - u1.length) f2 u2 w h2' (by omega))
              have z1 : (shF f1).size ≤ 500 := sh500 (by
                have e := parseF_leaves h1
                have := List.length_filter_le (fun c => !signB c) (s.data.toList.drop (i + 1))
                omega)
              have z2 : (shF f2).size ≤ 500 := sh500 (by
                have e := parseF_leaves h2
                have := List.length_filter_le (fun c => !signB c) u1
                omega)
              have hev : shF (.pair (kindB c) f1 f2) = (((⟨#[40]⟩ ++ shF f1) ++ sgnS (kindB c)) ++ shF f2) ++ ⟨#[41]⟩ := rfl
              rw [hev]
              obtain ⟨A, ha⟩ : ∃ a, a = shF f1 := ⟨_, rfl⟩
              obtain ⟨B, hb⟩ : ∃ b, b = shF f2 := ⟨_, rfl⟩
              obtain ⟨j, hj⟩ : ∃ j : Int, j = (s.size : Int) - u1.length := ⟨_, rfl⟩
              obtain ⟨k, hk⟩ : ∃ k : Int, k = (s.size : Int) - u2.length := ⟨_, rfl⟩
              rw [← ha] at z1 IH1 ⊢
              rw [← hb] at z2 IH2 ⊢
              rw [← hj] at IH1 IH2
              rw [← hk] at IH2 ⊢
              have n1 : ¬ 9223372036854775807 < 1 + A.size := by omega
              have n2 : ¬ 9223372036854775807 < 1 + A.size + 3 := by omega
              have n3 : ¬ 9223372036854775807 < 1 + A.size + 3 + B.size := by omega
              have n4 : ¬ 9223372036854775807 < 1 + A.size + 3 + B.size + 1 := by omega
              have hcs : c = 43 ∨ c = 42 := by simpa [signB] using hsg
              clear hdr hc hlen h1 h2 h2' e1 l1 e2 hcast hcast2 hev ha hb hj hk hsg z1 z2
              go_enter Try.func115, Try.ntmps115
              rcases hcs with rfl | rfl
              · rw [show (((43 : UInt8).toNat : Nat) : Int) = 43 from rfl] at hcn
                rw [show sgnS (kindB 43) = ⟨#[32, 43, 32]⟩ from rfl]
                go_wp2_with fail
                refine (IH1.out _).mono ?_
                rintro e w1 ⟨rfl, hb1⟩
                have HB1 := Lib.hid hb1
                clear hb1
                go_wp2_with fail
                refine (IH2.out _).mono ?_
                rintro e w2 ⟨rfl, hb2⟩
                have HB2 := Lib.hid (HB1.out.trans (hb2.mono HB1.out.size))
                clear hb2
                go_wp2_with fail
                refine bodyPost_ret (results_tmp2 rfl _ _ _) rfl ?_
                exact ⟨rfl, HB2.out⟩
              · rw [show (((42 : UInt8).toNat : Nat) : Int) = 42 from rfl] at hcn
                rw [show sgnS (kindB 42) = ⟨#[32, 42, 32]⟩ from rfl]
                go_wp2_with fail
                refine (IH1.out _).mono ?_
                rintro e w1 ⟨rfl, hb1⟩
                have HB1 := Lib.hid hb1
                clear hb1
                go_wp2_with fail
                refine (IH2.out _).mono ?_
                rintro e w2 ⟨rfl, hb2⟩
                have HB2 := Lib.hid (HB1.out.trans (hb2.mono HB1.out.size))
                clear hb2
                go_wp2_with fail
                refine bodyPost_ret (results_tmp2 rfl _ _ _) rfl ?_
                exact ⟨rfl, HB2.out⟩
        · rename_i hsg
          cases h1 : leafB p c with
          | none => rw [h1] at hpf; simp at hpf
          | some r1 =>
            obtain ⟨k, a⟩ := r1
            rw [h1] at hpf
            simp at hpf
            obtain ⟨rfl, rfl⟩ := hpf
            have hok := leafB_sh h1
            have n43 : ¬ ((c.toNat : Nat) : Int) = 43 := byte_ne (b := 43) (fun e => by rw [e] at hsg; simp [signB] at hsg)
            have n42 : ¬ ((c.toNat : Nat) : Int) = 42 := byte_ne (b := 42) (fun e => by rw [e] at hsg; simp [signB] at hsg)
            have hend : (s.size : Int) - ((s.data.toList.drop (i + 1)).length : Nat) = (i : Int) + 1 := by rw [hlen]; omega
            rw [hend]
            obtain ⟨d, hd⟩ : ∃ d, d = Lib.indexByte digB c := ⟨_, rfl⟩
            have HF := Lib.hid (fun w => show Calls Try.prog 134 #[.string ⟨#[48, 49, 50, 51, 52, 53, 54, 55, 56, 57, 65, 66, 67]⟩, .int .u8 (c.toNat : Int)] w fun e w' => e = .returned (.int .i64 d) ∧ w' = w by
              rw [hd]
              exact sFind ⟨#[48, 49, 50, 51, 52, 53, 54, 55, 56, 57, 65, 66, 67]⟩ c w (by decide))
            rw [← hd] at hok
            have hx : s.extract i (i + 1) = ⟨#[c]⟩ := by rw [extract_one hlt, hc]
            have hle : (i : Int) + 1 ≤ (s.size : Int) := by omega
            have hi1 : (0 : Int) ≤ (i : Int) + 1 := by omega
            have hii : (i : Int) ≤ (i : Int) + 1 := by omega
            obtain ⟨X, hX⟩ : ∃ X, X = shF (.leaf k a) := ⟨_, rfl⟩
            rw [← hX]
            have hX2 : X = if k = 0 then letS a else decB a := hX
            by_cases h9 : 9 < d
            · have hda : d = 10 ∨ d = 11 ∨ d = 12 := by
                rcases hok with ⟨_, h, _⟩ | ⟨_, h, _, h3, h4⟩ <;> omega
              have hXd : X = decB d := by
                rcases hok with ⟨_, h, _⟩ | ⟨rfl, rfl, _, _, _⟩
                · omega
                · rw [hX2]; rfl
              have HD := Lib.hid (fun w => sDec d hda w)
              rw [← hXd] at HD
              clear hdr hc hlen h1 hsg hend hd hok hda hXd hX hX2 hx
              go_enter Try.func115, Try.ntmps115
              go_wp2_with fail
              refine (HF.out _).mono ?_
              rintro e w1 ⟨rfl, rfl⟩
              go_wp2_with fail
              refine (HD.out _).mono ?_
              rintro e w2 ⟨rfl, hb2⟩
              have HB2 := Lib.hid hb2
              clear hb2
              go_wp2_with fail
              refine bodyPost_ret (results_tmp2 rfl _ _ _) rfl ?_
              exact ⟨rfl, HB2.out⟩
            · have hXc : X = ⟨#[c]⟩ := by
                rcases hok with ⟨rfl, _, h⟩ | ⟨rfl, rfl, h, _, _⟩
                · rw [hX2, h]; rfl
                · rw [hX2, h (by omega)]; rfl
              have HX := Lib.hid (show s.extract i (i + 1) = X by rw [hx, hXc])
              clear hdr hc hlen h1 hsg hend hd hok hX hX2 hx hXc
              go_enter Try.func115, Try.ntmps115
              go_wp2_with fail
              refine (HF.out _).mono ?_
              rintro e w1 ⟨rfl, rfl⟩
              go_wp2_with fail
              refine bodyPost_ret (results_tmp2 rfl _ _ _) rfl ?_
              exact ⟨by rw [← HX.out]; rfl, Below.refl _ _⟩
    · rw [List.drop_eq_nil_of_le (by omega)] at hpf
      cases n <;> simp [parseF] at hpf
termination_by n _ _ _ => n
set_option maxRecDepth 100000 in
set_option maxHeartbeats 4000000 in
theorem sShowFormula (p : Int) (s : ByteArray) (w : World) :
    Calls Try.prog 58 #[.int .i64 p, .string s] w fun e w' => e = .returned (.string (showV p s)) ∧ Below w.heap.size w w' := by
  have HF := Lib.hid (sFormulaValid p s)
  cases h : foF p s with
  | none =>
    have e : showV p s = ⟨#[]⟩ := by unfold showV; rw [h]
    have e2 : fokB p s = false := by rw [fokB_some, h]; rfl
    rw [e]
    rw [e2] at HF
    clear h e e2
    go_enter Try.func58, Try.ntmps58
    go_wp2_with fail
    refine (HF.out _).mono ?_
    rintro e w1 ⟨rfl, hb1⟩
    have HB := Lib.hid hb1
    clear hb1
    go_wp2_with fail
    go_ret
    exact ⟨rfl, HB.out⟩
  | some f =>
    have e2 : fokB p s = true := by rw [fokB_some, h]; rfl
    rw [e2] at HF
    obtain ⟨hp, hs, hf⟩ := foF_some h
    have e : showV p s = shF f := by unfold showV; rw [h]
    rw [e]
    have hw : parseF p s.size (s.data.toList.drop 0) = some (f, []) := by
      unfold formF at hf
      rw [Array.length_toList] at hf
      rw [List.drop_zero]
      show parseF p s.data.size _ = _
      cases h1 : parseF p s.data.size s.data.toList with
      | none => rw [h1] at hf; simp at hf
      | some r =>
        obtain ⟨g, u⟩ := r
        rw [h1] at hf
        cases u with
        | nil => simp at hf; rw [hf]
        | cons c u => simp at hf
    have HV := Lib.hid (fun w => sShow p s hs s.size 0 f [] w hw (by omega))
    obtain ⟨r, hr⟩ : ∃ r, r = shF f := ⟨_, rfl⟩
    obtain ⟨k, hk⟩ : ∃ k : Int, k = (s.size : Int) - (([] : List UInt8).length : Nat) := ⟨_, rfl⟩
    rw [← hr, ← hk] at HV
    rw [← hr]
    clear h e e2 hf hw hr hk hp
    go_enter Try.func58, Try.ntmps58
    go_wp2_with fail
    refine (HF.out _).mono ?_
    rintro e w1 ⟨rfl, hb1⟩
    have HB := Lib.hid hb1
    clear hb1
    go_wp2_with fail
    refine (HV.out _).mono ?_
    rintro e w2 ⟨rfl, hb2⟩
    have HB2 := Lib.hid (HB.out.trans (hb2.mono HB.out.size))
    clear hb2
    go_wp2_with fail
    go_ret
    exact ⟨rfl, HB2.out⟩
set_option maxRecDepth 100000 in
set_option maxHeartbeats 4000000 in
theorem xShowFormula (p : Int) (s : ByteArray) (w : World) :
    Calls Try.prog 16 #[.int .i64 p, .string s] w fun e w' => e = .returned (.bool true) ∧ Below w.heap.size w w' := by
  have HS := Lib.hid (sShowFormula p s)
  have HI := Lib.hid (iShowFormula p s)
  obtain ⟨b, hb⟩ : ∃ b, b = showV p s := ⟨_, rfl⟩
  rw [← hb] at HS HI
  clear hb
  rcases Classical.em ((1048576 : Int) < (s.size : Int)) with hl | hl
  · go_enter Try.func16, Try.ntmps16
    go_wp2_with fail
    go_ret
    exact ⟨rfl, Below.refl _ _⟩
  · go_enter Try.func16, Try.ntmps16
    go_wp2_with fail
    refine (HS.out _).mono ?_
    rintro e w1 ⟨rfl, hb1⟩
    have HB := Lib.hid hb1
    clear hb1
    go_wp2_with fail
    refine (HI.out _).mono ?_
    rintro e w2 ⟨rfl, hb2⟩
    have HB2 := Lib.hid (HB.out.trans (hb2.mono HB.out.size))
    clear hb2
    go_wp2_with fail
    go_ret
    exact ⟨rfl, HB2.out⟩
end Go.Proofs.Ytiahcaihmgnicaa
