/-
  The circuit of a formula, with sharing, against the formula: no gate twice, the root stands last, all gates used, the text again. No world.
-/
import Derived.Test.YtegkcfinklcglaaBq5
import Derived.Test.YtegkcfinklcglaaBo43
namespace Go.Proofs.Ytegkcfinklcglaa
open Go.RowKit
/-! a text and its tree -/
def txF : Fm → List UInt8
  | .leaf k a => if k = 0 then (ltrS a).data.toList else (dgtS a).data.toList
  | .pair k f g => (if k = 2 then 43 else 42) :: (txF f ++ txF g)
theorem leaf_txt {p : Int} {c : UInt8} {k a : Int} (h : leafB p c = some (k, a)) : txF (.leaf k a) = [c] := by
  unfold leafB at h
  split at h
  · rename_i h0
    injection h with h
    injection h with h1 h2
    subst h1 h2
    have : c ∈ letB := by
      have e := Lib.contains_iff_indexByte letB c
      rw [decide_eq_true h0] at e
      simpa using e
    have : c = 120 ∨ c = 121 ∨ c = 122 := by simpa [letB] using this
    rcases this with rfl | rfl | rfl <;> rfl
  · split at h
    · rename_i h0
      injection h with h
      injection h with h1 h2
      subst h1 h2
      have : c ∈ digB := by
        have e := Lib.contains_iff_indexByte digB c
        rw [decide_eq_true h0.1] at e
        simpa using e
      have : c = 48 ∨ c = 49 ∨ c = 50 ∨ c = 51 ∨ c = 52 ∨ c = 53 ∨ c = 54 ∨ c = 55 ∨ c = 56 ∨ c = 57 ∨ c = 65 ∨ c = 66 ∨ c = 67 := by simpa [digB] using this
      rcases this with rfl | rfl | rfl | rfl | rfl | rfl | rfl | rfl | rfl | rfl | rfl | rfl | rfl <;> rfl
    · cases h
theorem parse_txt {p : Int} : ∀ {n : Nat} {t t1 : List UInt8} {f : Fm}, parseF p n t = some (f, t1) → t = txF f ++ t1
  | 0, _, _, _, h => by simp [parseF] at h
  | n + 1, [], _, _, h => by simp [parseF] at h
  | n + 1, c :: t, t1, f, h => by
    simp only [parseF] at h
    split at h
    · rename_i hs
      cases h1 : parseF p n t with
      | none => rw [h1] at h; simp at h
      | some r1 =>
        obtain ⟨f1, u1⟩ := r1
        rw [h1] at h
        simp only at h
        cases h2 : parseF p n u1 with
        | none => rw [h2] at h; simp at h
        | some r2 =>
          obtain ⟨f2, u2⟩ := r2
          rw [h2] at h
          simp at h
          obtain ⟨rfl, rfl⟩ := h
          have e1 := parse_txt h1
          have e2 := parse_txt h2
          rw [e1, e2]
          have hc : c = 43 ∨ c = 42 := by simpa [signB] using hs
          rcases hc with rfl | rfl <;> simp [txF, kindB]
    · cases h1 : leafB p c with
      | none => rw [h1] at h; simp at h
      | some r1 =>
        rw [h1] at h
        simp at h
        obtain ⟨rfl, rfl⟩ := h
        rw [leaf_txt h1]
        rfl
theorem form_txt {p : Int} {t : List UInt8} {f : Fm} (h : formF p t = some f) : t = txF f := by
  unfold formF at h
  cases h1 : parseF p t.length t with
  | none => rw [h1] at h; simp at h
  | some r =>
    obtain ⟨g, u⟩ := r
    rw [h1] at h
    cases u with
    | nil =>
      simp at h
      subst h
      have := parse_txt h1
      simpa using this
    | cons c u => simp at h
theorem fo_one {p : Int} {s t : ByteArray} {f : Fm} (h1 : foF p s = some f) (h2 : foF p t = some f) : s = t := by
  have a := form_txt (foF_some h1).2.2
  have b := form_txt (foF_some h2).2.2
  have : s.data.toList = t.data.toList := a.trans b.symm
  exact ByteArray.ext (Array.toList_inj.1 this)
theorem fo_size {p : Int} {s : ByteArray} {f : Fm} (h : foF p s = some f) : sizeF f = s.size := by
  have hf := (foF_some h).2.2
  unfold formF at hf
  cases h1 : parseF p s.data.toList.length s.data.toList with
  | none => rw [h1] at hf; simp at hf
  | some r =>
    obtain ⟨g, u⟩ := r
    rw [h1] at hf
    cases u with
    | nil =>
      simp at hf
      subst hf
      have := parseF_size h1
      rw [Array.length_toList] at this
      have h2 : s.data.size = s.size := rfl
      simp at this
      omega
    | cons c u => simp at hf
/-! one gate, one tree -/
theorem atF_tree {p : Int} {D : List Gt} : ∀ {f g : Fm} {n : Nat}, okF p f → okF p g → atF D f n → atF D g n → f = g
  | .leaf k a, .leaf k' a', n, _, _, h, h' => by
    have e := h.2.symm.trans h'.2
    injection e with e1 e2
    rw [e1, e2]
  | .leaf k a, .pair k' f g, n, o, o', h, h' => by
    obtain ⟨_, u, v, _, _, e'⟩ := h'
    have e := h.2.symm.trans e'
    injection e with e1
    have h1 := o'.1
    have h2 : k = 0 ∨ k = 1 := o.imp (fun h => h.1) (fun h => h.1)
    omega
  | .pair k f g, .leaf k' a', n, o, o', h, h' => by
    obtain ⟨_, u, v, _, _, e'⟩ := h
    have e := e'.symm.trans h'.2
    injection e with e1
    have h1 := o.1
    have h2 : k' = 0 ∨ k' = 1 := o'.imp (fun h => h.1) (fun h => h.1)
    omega
  | .pair k f g, .pair k' f' g', n, o, o', h, h' => by
    obtain ⟨_, u, v, a1, a2, e1⟩ := h
    obtain ⟨_, u', v', b1, b2, e2⟩ := h'
    have e := e1.symm.trans e2
    injection e with e3 e4 e5
    have e4 : u = u' := by omega
    have e5 : v = v' := by omega
    subst e4 e5
    rw [e3, atF_tree o.2.1 o'.2.1 a1 b1, atF_tree o.2.2 o'.2.2 a2 b2]
/-- what stands there: no gate twice, each the place of a tree of a size -/
structure Shs (p : Int) (B : Nat) (D : List Gt) : Prop where
  nt : NoTwo D
  cv : ∀ n, n < D.length → ∃ g, atF D g n ∧ sizeF g ≤ B ∧ okF p g
theorem Shs.mono {p : Int} {B B' : Nat} {D : List Gt} (h : Shs p B D) (hB : B ≤ B') : Shs p B' D :=
  ⟨h.nt, fun n hn => by obtain ⟨g, h1, h2, h3⟩ := h.cv n hn; exact ⟨g, h1, by omega, h3⟩⟩
theorem shr_shs {p : Int} {B : Nat} {D : List Gt} (h : Shs p B D) (x : Gt) {g : Fm} (hg : okF p g) (hs : sizeF g ≤ B) (ha : ∀ E n, n < E.length → gAt E n = x → (∃ F, E = D ++ F) → atF E g n) : ∃ F, (shr x D).2 = D ++ F ∧ Shs p B (D ++ F) ∧ atF (D ++ F) g (shr x D).1 := by
  cases e : ixG x D with
  | some n =>
    rw [shr_hit e]
    refine ⟨[], by simp, by simpa using h, ?_⟩
    rw [List.append_nil]
    exact ha D n (ixG_lt e) (ixG_at e) ⟨[], by simp⟩
  | none =>
    rw [shr_new e]
    have hn := ixG_no e
    have hlen : (D ++ [x]).length = D.length + 1 := by rw [List.length_append]; rfl
    have hlast : gAt (D ++ [x]) D.length = x := gAt_end rfl
    have hat := ha (D ++ [x]) D.length (by omega) hlast ⟨[x], rfl⟩
    refine ⟨[x], rfl, ⟨fun i k hi hk he => ?_, fun n hn' => ?_⟩, hat⟩
    · by_cases h1 : i < D.length
      · by_cases h2 : k < D.length
        · rw [gAt_app h1, gAt_app h2] at he
          exact h.nt i k h1 h2 he
        · rw [gAt_app h1, show k = D.length by omega, hlast] at he
          exact absurd he (hn i h1)
      · by_cases h2 : k < D.length
        · rw [gAt_app h2, show i = D.length by omega, hlast] at he
          exact absurd he.symm (hn k h2)
        · omega
    · by_cases h1 : n < D.length
      · obtain ⟨i, hi, hi2⟩ := h.cv n h1
        exact ⟨i, atF_app hi, hi2⟩
      · rw [show n = D.length by omega]
        exact ⟨g, hat, hs, hg⟩
theorem putF_shs {p : Int} {B : Nat} : ∀ (f : Fm) (D : List Gt), okF p f → sizeF f ≤ B → Shs p B D → ∃ F, (putF f D).2 = D ++ F ∧ Shs p B (D ++ F) ∧ atF (D ++ F) f (putF f D).1
  | .leaf k a, D, ho, hs, hD => shr_shs hD ⟨k, a, 0⟩ ho hs (fun E n h1 h2 _ => ⟨h1, h2⟩)
  | .pair k f g, D, ho, hs, hD => by
    have hsz : sizeF (.pair k f g) = 1 + sizeF f + sizeF g := rfl
    obtain ⟨F1, e1, s1, a1⟩ := putF_shs f D ho.2.1 (by omega) hD
    obtain ⟨F2, e2, s2, a2⟩ := putF_shs g (D ++ F1) ho.2.2 (by omega) s1
    rw [← e1] at e2 s2 a2
    obtain ⟨F3, e3, s3, a3⟩ := shr_shs s2 ⟨k, ((putF f D).1 : Nat), ((putF g (putF f D).2).1 : Nat)⟩ ho hs (fun E n h1 h2 hE => by
      obtain ⟨F, rfl⟩ := hE
      refine ⟨h1, _, _, ?_, atF_app a2, h2⟩
      have := atF_app (E := F2 ++ F) a1
      rwa [← e1, ← List.append_assoc] at this)
    refine ⟨F1 ++ (F2 ++ F3), ?_, ?_, ?_⟩
    · show (shr _ _).2 = _
      rw [e2, e3, e1]
      simp only [List.append_assoc]
    · rw [e1] at s3
      simpa only [List.append_assoc] using s3
    · rw [e1] at a3
      show atF _ _ (shr _ _).1
      rw [e2, e1]
      simpa only [List.append_assoc] using a3
theorem Cov.shr2 {D : List Gt} {S : Nat → Prop} {k : Int} {a b : Nat} (hk : k = 2 ∨ k = 3) (h : Cov D (fun j => (S j ∨ j = a) ∨ j = b)) : Cov (shr ⟨k, (a : Int), (b : Int)⟩ D).2 (fun j => S j ∨ j = (shr ⟨k, (a : Int), (b : Int)⟩ D).1) := by
  have h' : Cov D (fun j => S j ∨ j = a ∨ j = b) := h.mono fun j hj => by
    rcases hj with (hj | hj) | hj
    · exact .inl hj
    · exact .inr (.inl hj)
    · exact .inr (.inr hj)
  cases e : ixG ⟨k, (a : Int), (b : Int)⟩ D with
  | none => rw [shr_new e]; exact h'.join hk
  | some n =>
    rw [shr_hit e]
    have hg := ixG_at e
    intro j hj
    rcases h' j hj with (h1 | h1) | h1
    · exact .inl (.inl h1)
    · refine .inr ⟨n, ixG_lt e, ?_, ?_⟩
      · rw [hg]; rcases hk with rfl | rfl <;> rfl
      · rw [hg]
        rcases h1 with rfl | rfl
        · exact .inl rfl
        · exact .inr rfl
    · exact .inr h1
theorem putF_cov {p : Int} : ∀ (f : Fm) (D : List Gt) (S : Nat → Prop), okF p f → Cov D S → Cov (putF f D).2 (fun j => S j ∨ j = (putF f D).1)
  | .leaf k a, D, S, _, h => by
    show Cov (shr ⟨k, a, 0⟩ D).2 (fun j => S j ∨ j = (shr ⟨k, a, 0⟩ D).1)
    cases e : ixG ⟨k, a, 0⟩ D with
    | none => rw [shr_new e]; exact h.snoc _
    | some n => rw [shr_hit e]; exact h.mono fun j hj => .inl hj
  | .pair k f g, D, S, ho, h => Cov.shr2 ho.1 (putF_cov g _ _ ho.2.2 (putF_cov f D S ho.2.1 h))
/-- the root stands last -/
theorem putF_last {p : Int} {f : Fm} (ho : okF p f) : (putF f []).1 + 1 = (putF f []).2.length := by
  have nil : ∀ B, Shs p B [] := fun B => ⟨fun i j hi => by simp at hi, fun n hn => by simp at hn⟩
  cases f with
  | leaf k a => rfl
  | pair k f g =>
    obtain ⟨F1, e1, s1, a1⟩ := putF_shs f [] ho.2.1 (Nat.le_refl _) (nil (sizeF f))
    obtain ⟨F2, e2, s2, a2⟩ := putF_shs (B := sizeF f + sizeF g) g ([] ++ F1) ho.2.2 (by omega) (s1.mono (by omega))
    rw [← e1] at e2 s2 a2
    show (shr _ _).1 + 1 = (shr _ _).2.length
    rw [e2]
    cases e : ixG ⟨k, ((putF f []).1 : Nat), ((putF g (putF f []).2).1 : Nat)⟩ ((putF f []).2 ++ F2) with
    | none =>
      rw [shr_new e]
      simp
      omega
    | some n =>
      exfalso
      obtain ⟨t, t1, t2, t3⟩ := s2.cv n (ixG_lt e)
      have hat : atF ((putF f []).2 ++ F2) (.pair k f g) n := by
        refine ⟨ixG_lt e, _, _, ?_, a2, ixG_at e⟩
        have := atF_app (E := F2) a1
        rwa [← e1] at this
      have := atF_tree ho t3 hat t1
      rw [← this] at t2
      have hsz : sizeF (.pair k f g) = 1 + sizeF f + sizeF g := rfl
      omega
theorem tr_is {p : Int} {D : List Gt} (hv : circB p D = true) : ∀ {f : Fm} {n : Nat}, okF p f → atF D f n → tr D n = f
  | .leaf k a, n, ho, h => by
    have hk : k = 0 ∨ k = 1 := ho.imp (fun h => h.1) (fun h => h.1)
    rw [tr_leaf (by rw [h.2]; rcases hk with rfl | rfl <;> rfl), h.2]
  | .pair k f g, n, ho, h => by
    obtain ⟨h1, u, v, a1, a2, e⟩ := h
    have hg : joinsB (gAt D n) = true := by rw [e]; rcases ho.1 with rfl | rfl <;> rfl
    have hc := gOK_cases ((circB_iff.1 hv).2.2.2 n h1)
    have hk : (gAt D n).k = 2 ∨ (gAt D n).k = 3 := by simpa [joinsB] using hg
    rw [tr_join hg (by omega) (by omega), e]
    show Fm.pair k (tr D ((u : Int)).toNat) (tr D ((v : Int)).toNat) = _
    rw [Int.toNat_natCast, Int.toNat_natCast, tr_is hv ho.2.1 a1, tr_is hv ho.2.2 a2]
theorem sz_tree {p : Int} {L : List Gt} (hv : circB p L = true) : ∀ d j, j < d → j < L.length → szAt L j = min (sizeF (tr L j) : Int) 1000
  | 0, j, h, _ => by omega
  | d + 1, j, h, hj => by
    have hc := gOK_cases ((circB_iff.1 hv).2.2.2 j hj)
    cases hg : joinsB (gAt L j)
    · rw [tr_leaf hg, szAt_eq, if_neg (by rw [hg]; decide)]
      show (1 : Int) = min ((1 : Nat) : Int) 1000
      omega
    · have hk : (gAt L j).k = 2 ∨ (gAt L j).k = 3 := by simpa [joinsB] using hg
      have ha : (gAt L j).a.toNat < j := by omega
      have hb : (gAt L j).b.toNat < j := by omega
      have ia := sz_tree hv d _ (show (gAt L j).a.toNat < d by omega) (by omega)
      have ib := sz_tree hv d _ (show (gAt L j).b.toNat < d by omega) (by omega)
      rw [tr_join hg ha hb, szAt_eq, if_pos hg, sizL_st L _ j ha, sizL_st L _ j hb, ia, ib]
      show _ = min ((1 + sizeF (tr L (gAt L j).a.toNat) + sizeF (tr L (gAt L j).b.toNat) : Nat) : Int) 1000
      omega
/-- all that the law of CircuitOfFormula asks -/
structure CofF (p : Int) (s : ByteArray) (D : List Gt) : Prop where
  cb : circB p D = true
  nt : NoTwo D
  ok : pffB p s = pcOk p D
  po : pffV p s = pcV p D
  fb : focB p D = true
  fs : focS p D = s
  us : (useV p D).length = D.length
  le : D.length ≤ s.size
theorem cofF {p : Int} {s : ByteArray} (h : (foF p s).isSome = true) : CofF p s (cofV p s) := by
  obtain ⟨f, hf⟩ := Option.isSome_iff_exists.1 h
  have ho := formF_ok (foF_some hf).2.2
  have hv := cofV_circ hf
  have e : cofV p s = (putF f []).2 := by unfold cofV; rw [hf]
  have hz := fo_size hf
  have h60 := foF_size hf
  have hle := (putF_facts f []).2.2
  have hla := putF_last ho
  obtain ⟨F, e1, s1, a1⟩ := putF_shs (B := sizeF f) f [] ho (Nat.le_refl _) ⟨fun i j hi => by simp at hi, fun n hn => by simp at hn⟩
  have hcov := putF_cov f [] (fun _ => False) ho (fun j hj => by simp at hj)
  rw [e] at hv ⊢
  rw [← e1] at s1 a1
  generalize (putF f []).2 = D at *
  generalize (putF f []).1 = r at *
  have hl := (circB_iff.1 hv).2.1
  have hr : r = D.length - 1 := by omega
  subst hr
  have htr := tr_is hv ho a1
  have w := pf_whole hv
  rw [htr] at w
  have hsz := sz_tree hv D.length (D.length - 1) (by omega) (by omega)
  rw [htr] at hsz
  have hfb : focB p D = true := by
    unfold focB
    rw [hv, Bool.true_and]
    exact decide_eq_true (by omega)
  have hcv : Cov D (fun j => (j : Int) = (D.length : Int) - 1) := hcov.mono fun j hj => by
    rcases hj with hj | hj
    · exact hj.elim
    · omega
  refine ⟨hv, s1.nt, by unfold pffB; rw [hf]; exact w.1, by unfold pffV; rw [hf]; exact w.2, hfb, ?_, ?_, by simp at hle; omega⟩
  · rw [(focF hfb).1]
    have := (fo_is hv (by omega)).1
    rw [htr] at this
    exact fo_one this hf
  · have hu : ∀ i, i < D.length → useF D i = true := fun i hi => cov_used hv hcv D.length i (by omega) hi
    unfold useV
    rw [if_pos hv, (prnL_out hv (circB_iff.1 hv).2.2.1).2, useTo_full _ hu]
end Go.Proofs.Ytegkcfinklcglaa
