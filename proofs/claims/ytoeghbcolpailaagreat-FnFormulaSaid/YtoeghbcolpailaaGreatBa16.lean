/-
  Contracts of the model's readers of formulas: where one ends, whether a text is one, how many leaves it has. Conditions: none.
-/
import Derived.Test.YtoeghbcolpailaaGreatBa5
import Derived.Test.YtoeghbcolpailaaGreatBa12
import Derived.Test.YtoeghbcolpailaaGreatBa2
namespace Go.Proofs.YtoeghbcolpailaaGreat
open Go.RowKit
theorem byte_ne {a b : UInt8} (h : a ≠ b) : ¬ (((a.toNat : Nat) : Int) = ((b.toNat : Nat) : Int)) := fun e => h (UInt8.toNat_inj.1 (by omega))
theorem contains_one (a b : UInt8) : List.contains [b] a = decide (a = b) := by simp
set_option maxRecDepth 100000 in
set_option maxHeartbeats 4000000 in
theorem sFind (s : ByteArray) (c : UInt8) (w : World) (hs : s.size ≤ 1000) :
    Calls Tryz.prog 44 #[.string s, .int .u8 (c.toNat : Int)] w fun e w' => e = .returned (.int .i64 (Lib.indexByte s.data.toList c)) ∧ w' = w := by
  go_enter Tryz.func44, Tryz.ntmps44
  go_wp2_with fail
  go_loopw [5] (fun i wr => ∃ k : Nat, k ≤ s.size ∧ i = .int .i64 k ∧ wr = w ∧ Lib.NoAny s.data.toList [c] k) (fun i _ => s.size - (intOf i).toNat)
  case atStart => exact ⟨0, by omega, rfl, rfl, Lib.NoAny.zero _ _⟩
  case round =>
    obtain ⟨k, hk, rfl, rfl, hno⟩ := hrel
    by_cases hlt : k < s.size
    · have hltp : (k : Int) < (s.size : Int) := by omega
      have hk0 : (0 : Int) ≤ (k : Int) := by omega
      have hd := Lib.data_getElem? s k hlt
      by_cases he : s[k] = c
      · have e := Lib.indexAny_hit hno hd (by rw [contains_one]; exact decide_eq_true he)
        rw [Lib.indexAny_one] at e
        have hes : (((s[k].toNat : Nat) : Int) == ((c.toNat : Nat) : Int)) = true := by rw [he]; simp
        clear hno hd
        go_wp2_with fail
        go_ret
        exact ⟨by rw [e]; rfl, rfl⟩
      · have hno2 := Lib.NoAny.succ hno hd (by rw [contains_one]; exact decide_eq_false he)
        have hes : (((s[k].toNat : Nat) : Int) == ((c.toNat : Nat) : Int)) = false := by simpa using byte_ne he
        clear hno hd
        go_wp2_with fail
        go_roundw
        case rel => exact ⟨k + 1, by omega, by go_num, trivial, hno2⟩
        case measure => simp [intOf]; omega
    · have hkl : k = s.size := by omega
      subst hkl
      have e := Lib.indexAny_none (s := s.data.toList) (chars := [c]) (by rw [show s.data.toList.length = s.size from by rw [Array.length_toList]; rfl]; exact hno)
      rw [Lib.indexAny_one] at e
      clear hno
      go_wp2_with fail
      go_ret
      exact ⟨by rw [e]; rfl, rfl⟩
/-- where the formula ends that has been read -/
def endV (s : ByteArray) : Option (Fm × List UInt8) → Int
  | none => -1
  | some (_, t) => s.size - t.length
set_option maxRecDepth 100000 in
set_option maxHeartbeats 4000000 in
theorem sEnd_neg (p : Int) (s : ByteArray) (w : World) :
    Calls Tryz.prog 23 #[.int .i64 p, .string s, .int .i64 (-1)] w fun e w' => e = .returned (.int .i64 (-1)) ∧ Below w.heap.size w w' := by
  go_enter Tryz.func23, Tryz.ntmps23
  go_wp2_with fail
  go_ret
  exact ⟨rfl, Below.refl _ _⟩
set_option maxRecDepth 100000 in
set_option maxHeartbeats 4000000 in
theorem sEnd (p : Int) (s : ByteArray) (hs : s.size ≤ 1000) : ∀ (n at_ : Nat) (w : World), (s.data.toList.drop at_).length ≤ n → at_ ≤ s.size →
    Calls Tryz.prog 23 #[.int .i64 p, .string s, .int .i64 (at_ : Int)] w fun e w' => e = .returned (.int .i64 (endV s (parseF p n (s.data.toList.drop at_)))) ∧ Below w.heap.size w w'
  | n, i, w, hn, hi => by
    have hsl : s.data.toList.length = s.size := by rw [Array.length_toList]; rfl
    by_cases hlt : i < s.size
    · cases n with
      | zero => simp [hsl] at hn; omega
      | succ n =>
        have hd := Lib.data_getElem? s i hlt
        have hdr : s.data.toList.drop i = s[i] :: s.data.toList.drop (i + 1) := by
          rw [List.drop_eq_getElem_cons (by omega)]
          rfl
        obtain ⟨c, hc⟩ : ∃ c, c = s[i] := ⟨_, rfl⟩
        rw [← hc] at hdr
        have hltp : (i : Int) < (s.size : Int) := by omega
        have hi0 : (0 : Int) ≤ (i : Int) := by omega
        have hw : IntKind.i64.wrap ((i : Int) + 1) = ((i + 1 : Nat) : Int) := by rw [IntWalk.i64_in _ (by omega)]; omega
        have hw2 : IntKind.i64.wrap ((i : Int) + 1) = (i : Int) + 1 := IntWalk.i64_in _ (by omega)
        have hn1 : (s.data.toList.drop (i + 1)).length ≤ n := by rw [List.length_drop] at hn ⊢; omega
        have hcn : ((s[i].toNat : Nat) : Int) = ((c.toNat : Nat) : Int) := by rw [hc]
        rw [hdr]
        cases hsg : signB c
        · have hlen1 : ((s.data.toList.drop (i + 1)).length : Int) = (s.size : Int) - ((i : Int) + 1) := by rw [List.length_drop, hsl]; omega
          have n43 : ¬ ((c.toNat : Nat) : Int) = 43 := byte_ne (b := 43) (fun e => by rw [e] at hsg; simp [signB] at hsg)
          have n42 : ¬ ((c.toNat : Nat) : Int) = 42 := byte_ne (b := 42) (fun e => by rw [e] at hsg; simp [signB] at hsg)
          clear hd hdr hn1
          rcases Classical.em (c = 120 ∨ c = 121 ∨ c = 122) with hl | hl
          · have hlf : ∃ k a, leafB p c = some (k, a) := by rcases hl with rfl | rfl | rfl <;> exact ⟨_, _, rfl⟩
            have e : endV s (parseF p (n + 1) (c :: s.data.toList.drop (i + 1))) = (i : Int) + 1 := by
              obtain ⟨k, a, hlf⟩ := hlf
              simp only [parseF, hsg, hlf, Bool.false_eq_true, if_false, endV]
              omega
            rw [e]
            have hcc : ((c.toNat : Nat) : Int) = 120 ∨ ((c.toNat : Nat) : Int) = 121 ∨ ((c.toNat : Nat) : Int) = 122 := by rcases hl with rfl | rfl | rfl <;> simp
            clear hl hlf e hlen1 hsg n43 n42
            go_enter Tryz.func23, Tryz.ntmps23
            rcases hcc with h1 | h1 | h1
            · rw [h1] at hcn
              go_wp2_with fail
              go_ret
              exact ⟨rfl, Below.refl _ _⟩
            · rw [h1] at hcn
              go_wp2_with fail
              go_ret
              exact ⟨rfl, Below.refl _ _⟩
            · rw [h1] at hcn
              go_wp2_with fail
              go_ret
              exact ⟨rfl, Below.refl _ _⟩
          · have n120 : ¬ ((c.toNat : Nat) : Int) = 120 := byte_ne (b := 120) (fun e => hl (.inl e))
            have n121 : ¬ ((c.toNat : Nat) : Int) = 121 := byte_ne (b := 121) (fun e => hl (.inr (.inl e)))
            have n122 : ¬ ((c.toNat : Nat) : Int) = 122 := byte_ne (b := 122) (fun e => hl (.inr (.inr e)))
            have hlt0 : ¬ 0 ≤ Lib.indexByte letB c := by
              have e := Lib.contains_iff_indexByte letB c
              intro h0
              rw [decide_eq_true h0] at e
              simp [letB] at e
              exact hl e
            obtain ⟨d, hd⟩ : ∃ d, d = Lib.indexByte digB c := ⟨_, rfl⟩
            have HF := Lib.hid (fun w => show Calls Tryz.prog 44 #[.string ⟨#[48, 49, 50, 51, 52, 53, 54, 55, 56, 57, 65, 66, 67]⟩, .int .u8 (c.toNat : Int)] w fun e w' => e = .returned (.int .i64 d) ∧ w' = w by
              rw [hd]
              exact sFind ⟨#[48, 49, 50, 51, 52, 53, 54, 55, 56, 57, 65, 66, 67]⟩ c w (by decide))
            rcases Classical.em (0 ≤ d ∧ d < p) with ⟨hd0, hd1⟩ | hno
            · have e : endV s (parseF p (n + 1) (c :: s.data.toList.drop (i + 1))) = (i : Int) + 1 := by
                have hlf : leafB p c = some (1, d) := by unfold leafB; rw [if_neg hlt0, if_pos (by rw [← hd]; exact ⟨hd0, hd1⟩), ← hd]
                simp only [parseF, hsg, hlf, Bool.false_eq_true, if_false, endV]
                omega
              rw [e]
              clear hl e hlen1 hsg hlt0 hd
              go_enter Tryz.func23, Tryz.ntmps23
              go_wp2_with fail
              refine (HF.out _).mono ?_
              rintro e w' ⟨rfl, rfl⟩
              go_wp2_with fail
              go_ret
              exact ⟨rfl, Below.refl _ _⟩
            · have e : endV s (parseF p (n + 1) (c :: s.data.toList.drop (i + 1))) = -1 := by
                have hlf : leafB p c = none := by unfold leafB; rw [if_neg hlt0, if_neg (by rw [← hd]; exact hno)]
                simp only [parseF, hsg, hlf, Bool.false_eq_true, if_false, endV]
              rw [e]
              clear hl e hlen1 hsg hlt0 hd
              rcases Classical.em (0 ≤ d) with hd0 | hd0
              · have hd1 : ¬ d < p := fun h => hno ⟨hd0, h⟩
                clear hno
                go_enter Tryz.func23, Tryz.ntmps23
                go_wp2_with fail
                refine (HF.out _).mono ?_
                rintro e w' ⟨rfl, rfl⟩
                go_wp2_with fail
                go_ret
                exact ⟨rfl, Below.refl _ _⟩
              · clear hno
                go_enter Tryz.func23, Tryz.ntmps23
                go_wp2_with fail
                refine (HF.out _).mono ?_
                rintro e w' ⟨rfl, rfl⟩
                go_wp2_with fail
                go_ret
                exact ⟨rfl, Below.refl _ _⟩
        · have hcast : ((i + 1 : Nat) : Int) = (i : Int) + 1 := by omega
          have IH1 := Lib.hid (fun w => hcast ▸ sEnd p s hs n (i + 1) w hn1 (by omega))
          obtain ⟨P, hP⟩ : ∃ P, P = parseF p n (s.data.toList.drop (i + 1)) := ⟨_, rfl⟩
          rw [← hP] at IH1
          have IH2 := Lib.hid (show ∀ w, Calls Tryz.prog 23 #[.int .i64 p, .string s, .int .i64 (endV s P)] w fun e w' => e = .returned (.int .i64 (endV s (parseF p (n + 1) (c :: s.data.toList.drop (i + 1))))) ∧ Below w.heap.size w w' from fun w => by
            simp only [parseF, hsg, if_true, ← hP]
            cases P with
            | none => exact sEnd_neg p s w
            | some r =>
              obtain ⟨f, t1⟩ := r
              have e1 := parseF_drop hP.symm
              have l1 := parseF_len hP.symm
              have hlen : (s.data.toList.drop (i + 1)).length = s.size - (i + 1) := by rw [List.length_drop, hsl]
              have e2 : t1 = s.data.toList.drop (s.size - t1.length) := by
                rw [List.drop_drop] at e1
                rw [show s.size - t1.length = i + 1 + ((s.data.toList.drop (i + 1)).length - t1.length) by omega]
                exact e1
              have I := sEnd p s hs n (s.size - t1.length) w (by rw [← e2]; omega) (by omega)
              rw [← e2] at I
              have ei : endV s (some (f, t1)) = ((s.size - t1.length : Nat) : Int) := by simp only [endV]; omega
              rw [ei]
              refine I.mono ?_
              rintro e w' ⟨rfl, hb⟩
              refine ⟨?_, hb⟩
              dsimp only
              cases parseF p n t1 with
              | none => rfl
              | some r2 => rfl)
          have hcs : c = 43 ∨ c = 42 := by simpa [signB] using hsg
          have hc43 : ((c.toNat : Nat) : Int) = 43 ∨ ((c.toNat : Nat) : Int) = 42 := by rcases hcs with rfl | rfl <;> simp
          obtain ⟨R, hR⟩ : ∃ R, R = endV s (parseF p (n + 1) (c :: s.data.toList.drop (i + 1))) := ⟨_, rfl⟩
          rw [← hR] at IH2 ⊢
          clear hd hdr hP hcs hsg hR
          go_enter Tryz.func23, Tryz.ntmps23
          rcases hc43 with h43 | h42
          · rw [h43] at hcn
            go_wp2_with fail
            refine (IH1.out _).mono ?_
            rintro e w1 ⟨rfl, hb1⟩
            have HB := Lib.hid hb1
            clear hb1
            go_wp2_with fail
            refine (IH2.out _).mono ?_
            rintro e w2 ⟨rfl, hb2⟩
            have HB2 := Lib.hid (HB.out.trans (hb2.mono HB.out.size))
            clear hb2
            go_wp2_with fail
            go_ret
            exact ⟨rfl, HB2.out⟩
          · rw [h42] at hcn
            go_wp2_with fail
            refine (IH1.out _).mono ?_
            rintro e w1 ⟨rfl, hb1⟩
            have HB := Lib.hid hb1
            clear hb1
            go_wp2_with fail
            refine (IH2.out _).mono ?_
            rintro e w2 ⟨rfl, hb2⟩
            have HB2 := Lib.hid (HB.out.trans (hb2.mono HB.out.size))
            clear hb2
            go_wp2_with fail
            go_ret
            exact ⟨rfl, HB2.out⟩
    · have hil : i = s.size := by omega
      have e : s.data.toList.drop i = [] := by rw [hil, ← hsl, List.drop_length]
      have ev : endV s (parseF p n (s.data.toList.drop i)) = -1 := by rw [e]; cases n <;> rfl
      rw [ev]
      clear e ev
      subst hil
      go_enter Tryz.func23, Tryz.ntmps23
      go_wp2_with fail
      go_ret
      exact ⟨rfl, Below.refl _ _⟩
termination_by n _ _ => n
/-- whether a text is a formula over a field -/
def fokB (p : Int) (s : ByteArray) : Bool := isP p && (decide (s.size ≤ 60) && (formF p s.data.toList).isSome)
theorem endV_whole (p : Int) (s : ByteArray) : decide (endV s (parseF p s.size s.data.toList) = (s.size : Int)) = (formF p s.data.toList).isSome := by
  have hsl : s.data.toList.length = s.size := by rw [Array.length_toList]; rfl
  unfold formF
  rw [hsl]
  cases h : parseF p s.size s.data.toList with
  | none => simp [endV]
  | some r =>
    obtain ⟨f, t⟩ := r
    cases t with
    | nil => simp [endV]
    | cons c t => simp only [endV, List.length_cons]; exact decide_eq_false (by omega)
set_option maxRecDepth 100000 in
set_option maxHeartbeats 4000000 in
theorem sFormulaValid (p : Int) (s : ByteArray) (w : World) :
    Calls Tryz.prog 8 #[.int .i64 p, .string s] w fun e w' => e = .returned (.bool (fokB p s)) ∧ Below w.heap.size w w' := by
  have HP := Lib.hid (sPV p)
  rcases Bool.eq_false_or_eq_true (isP p) with hp | hp
  · rw [hp] at HP
    rcases Classical.em (s.size ≤ 60) with hs | hs
    · have E := Lib.hid (fun w => sEnd p s (by omega) s.size 0 w (by rw [List.drop_zero, Array.length_toList]; exact Nat.le_refl _) (by omega))
      rw [List.drop_zero] at E
      obtain ⟨d, hd⟩ : ∃ d, d = endV s (parseF p s.size s.data.toList) := ⟨_, rfl⟩
      have ev : fokB p s = decide (d = (s.size : Int)) := by unfold fokB; rw [hp, decide_eq_true hs, ← endV_whole, ← hd]; rfl
      rw [ev]
      rw [← hd] at E
      have hsi : (s.size : Int) ≤ 60 := by omega
      clear hd ev hp
      go_enter Tryz.func8, Tryz.ntmps8
      go_wp2_with fail
      refine (HP.out _).mono ?_
      rintro e w' ⟨rfl, rfl⟩
      go_wp2_with fail
      refine (E.out _).mono ?_
      rintro e w' ⟨rfl, hb⟩
      have HB := Lib.hid hb
      clear hb
      go_wp2_with fail
      go_ret
      exact ⟨by first | rfl | (simp; done), HB.out⟩
    · have ev : fokB p s = false := by unfold fokB; rw [hp, decide_eq_false hs]; rfl
      rw [ev]
      have hsi : ¬ (s.size : Int) ≤ 60 := by omega
      clear hp ev
      go_enter Tryz.func8, Tryz.ntmps8
      go_wp2_with fail
      refine (HP.out _).mono ?_
      rintro e w' ⟨rfl, rfl⟩
      go_wp2_with fail
      go_ret
      exact ⟨rfl, Below.refl _ _⟩
  · rw [hp] at HP
    have ev : fokB p s = false := by unfold fokB; rw [hp]; rfl
    rw [ev]
    clear hp ev
    go_enter Tryz.func8, Tryz.ntmps8
    go_wp2_with fail
    refine (HP.out _).mono ?_
    rintro e w' ⟨rfl, rfl⟩
    go_wp2_with fail
    go_ret
    exact ⟨rfl, Below.refl _ _⟩
end Go.Proofs.YtoeghbcolpailaaGreat
