/-
  The circuit of a polynomial against the polynomial: its polynomial, used gates, sums, formal degree. No world.
  The circuit of a polynomial against the polynomial, on: terms, sums, the whole. No world.
-/
import Derived.Test.YtoeghbcolpailaaGreatBa37
import Derived.Test.YtoeghbcolpailaaGreatBa35
import Derived.Test.YtoeghbcolpailaaGreatBa43
namespace Go.Proofs.YtoeghbcolpailaaGreat
open Go.RowKit
/-! what a gate says hangs on the gates up to it -/
theorem pcF_app (p : Int) (C D : List Gt) : ∀ k, k ≤ C.length → pcF p (C ++ D) k = pcF p C k
  | 0, _ => rfl
  | k + 1, h => by
    funext j
    show (if j = k then pgV p (gAt (C ++ D) k) (pcF p (C ++ D) k) else pcF p (C ++ D) k j) = (if j = k then pgV p (gAt C k) (pcF p C k) else pcF p C k j)
    rw [pcF_app p C D k (by omega), gAt_app (by omega)]
theorem pcP_app {p : Int} {C D : List Gt} {j : Nat} (h : j < C.length) : pcP p (C ++ D) j = pcP p C j := by unfold pcP; rw [pcF_app p C D (j + 1) (by omega)]
theorem pcO_app {p : Int} {C D : List Gt} {j : Nat} (h : j < C.length) : pcO p (C ++ D) j = pcO p C j := by unfold pcO; rw [pcF_app p C D j (by omega), gAt_app h]
theorem degL_app (C D : List Gt) : ∀ k, k ≤ C.length → degL (C ++ D) k = degL C k
  | 0, _ => rfl
  | k + 1, h => by
    rw [degL, degL, degL_app C D k (by omega), gAt_app (by omega)]
theorem degAt_app {C D : List Gt} {j : Nat} (h : j < C.length) : degAt (C ++ D) j = degAt C j := by unfold degAt; rw [degL_app C D (j + 1) (by omega)]
theorem cst_app (C D : List Gt) (U : Nat → Bool) (kd : Int) : ∀ k, k ≤ C.length → cst (C ++ D) U kd k = cst C U kd k
  | 0, _ => rfl
  | k + 1, h => by rw [cst, cst, cst_app C D U kd k (by omega), gAt_app (by omega)]
/-- how many gates are of a kind -/
def cntG (kd : Int) (C : List Gt) : Int := cst C (fun _ => true) kd C.length
theorem cntG_snoc (kd : Int) (C : List Gt) (x : Gt) : cntG kd (C ++ [x]) = cntG kd C + if x.k == kd then 1 else 0 := by
  unfold cntG
  rw [List.length_append]
  show cst (C ++ [x]) (fun _ => true) kd (C.length + 1) = _
  rw [cst, cst_app C [x] _ kd C.length (Nat.le_refl _), gAt_end rfl]
  simp
/-- every gate but these is a part of a gate -/
def Cov (C : List Gt) (S : Nat → Prop) : Prop := ∀ j, j < C.length → S j ∨ ∃ i, i < C.length ∧ joinsB (gAt C i) = true ∧ ((j : Int) = (gAt C i).a ∨ (j : Int) = (gAt C i).b)
theorem Cov.mono {C : List Gt} {S T : Nat → Prop} (h : Cov C S) (hs : ∀ j, S j → T j) : Cov C T := fun j hj => (h j hj).imp (hs j) id
theorem Cov.snoc {C : List Gt} {S : Nat → Prop} (h : Cov C S) (x : Gt) : Cov (C ++ [x]) (fun j => S j ∨ j = C.length) := fun j hj => by
  by_cases hjc : j < C.length
  · rcases h j hjc with h | ⟨i, h1, h2, h3⟩
    · exact .inl (.inl h)
    · exact .inr ⟨i, by simp; omega, by rw [gAt_app h1]; exact h2, by rw [gAt_app h1]; exact h3⟩
  · exact .inl (.inr (by simp at hj; omega))
theorem Cov.join {C : List Gt} {S : Nat → Prop} {k : Int} {a b : Nat} (hk : k = 2 ∨ k = 3) (h : Cov C (fun j => S j ∨ j = a ∨ j = b)) : Cov (C ++ [⟨k, (a : Int), (b : Int)⟩]) (fun j => S j ∨ j = C.length) := fun j hj => by
  have hg : gAt (C ++ [⟨k, (a : Int), (b : Int)⟩]) C.length = ⟨k, (a : Int), (b : Int)⟩ := gAt_end rfl
  by_cases hjc : j < C.length
  · rcases h j hjc with (h | h) | ⟨i, h1, h2, h3⟩
    · exact .inl (.inl h)
    · refine .inr ⟨C.length, by simp, by rw [hg]; rcases hk with rfl | rfl <;> rfl, ?_⟩
      rw [hg]
      rcases h with rfl | rfl
      · exact .inl rfl
      · exact .inr rfl
    · exact .inr ⟨i, by simp; omega, by rw [gAt_app h1]; exact h2, by rw [gAt_app h1]; exact h3⟩
  · exact .inl (.inr (by simp at hj; omega))
/-! gates at the end -/
structure Good (p : Int) (C : List Gt) : Prop where
  ok : AllOK p C
  po : ∀ j, j < C.length → pcO p C j = true
theorem Good.snoc {p : Int} {C : List Gt} (h : Good p C) {x : Gt} (hx : gOK (p - 1) x (C.length : Nat) = true) (ho : pcO p (C ++ [x]) C.length = true) : Good p (C ++ [x]) :=
  ⟨allOK_snoc h.ok hx, fun j hj => by
    by_cases hjc : j < C.length
    · rw [pcO_app hjc]; exact h.po j hjc
    · have : j = C.length := by simp at hj; omega
      subst this
      exact ho⟩
theorem last_leaf {p : Int} (C : List Gt) (t : Int) : pcP p (C ++ [⟨1, t, 0⟩]) C.length = cnL t ∧ pcO p (C ++ [⟨1, t, 0⟩]) C.length = true ∧ degAt (C ++ [⟨1, t, 0⟩]) C.length = 0 := by
  have hg : gAt (C ++ [⟨1, t, 0⟩]) C.length = ⟨1, t, 0⟩ := gAt_end rfl
  have h := pcP_cn (p := p) (L := C ++ [⟨1, t, 0⟩]) (j := C.length) (by rw [hg])
  refine ⟨by rw [h.1, hg], h.2, ?_⟩
  rw [degAt_eq, hg]
  rfl
theorem at_unk {p : Int} {C : List Gt} {u : Nat} {v : Int} (hg : gAt C u = ⟨0, v, 0⟩) : pcP p C u = [onT v] ∧ pcO p C u = true ∧ degAt C u = 1 := by
  have h := pcP_in (p := p) (L := C) (j := u) (by rw [hg])
  refine ⟨by rw [h.1, hg], h.2, ?_⟩
  rw [degAt_eq, hg]
  rfl
theorem last_sum {p : Int} {C : List Gt} {a b : Nat} (ha : a < C.length) (hb : b < C.length) :
    pcP p (C ++ [⟨2, (a : Int), (b : Int)⟩]) C.length = sumV p (pcP p C a) (pcP p C b) ∧ pcO p (C ++ [⟨2, (a : Int), (b : Int)⟩]) C.length = addOk p (pcP p C a) (pcP p C b) ∧ degAt (C ++ [⟨2, (a : Int), (b : Int)⟩]) C.length = max (degAt C a) (degAt C b) := by
  have hg : gAt (C ++ [⟨2, (a : Int), (b : Int)⟩]) C.length = ⟨2, (a : Int), (b : Int)⟩ := gAt_end rfl
  have e : pcF p (C ++ [⟨2, (a : Int), (b : Int)⟩]) C.length = pcF p C C.length := pcF_app p C _ C.length (Nat.le_refl _)
  refine ⟨?_, ?_, ?_⟩
  · rw [pcP_eq, hg, e]
    show sumV p (pcF p C C.length (a : Int).toNat) (pcF p C C.length (b : Int).toNat) = _
    rw [Int.toNat_natCast, Int.toNat_natCast, pcF_st p C a _ ha, pcF_st p C b _ hb]
  · unfold pcO
    rw [hg, e]
    show addOk p (pcF p C C.length (a : Int).toNat) (pcF p C C.length (b : Int).toNat) = _
    rw [Int.toNat_natCast, Int.toNat_natCast, pcF_st p C a _ ha, pcF_st p C b _ hb]
  · rw [deg_two (by rw [hg]) (by rw [hg]; simpa using ha) (by rw [hg]; simpa using hb), hg]
    show max (degAt _ (a : Int).toNat) (degAt _ (b : Int).toNat) = _
    rw [Int.toNat_natCast, Int.toNat_natCast, degAt_app ha, degAt_app hb]
theorem last_mul {p : Int} {C : List Gt} {a b : Nat} (ha : a < C.length) (hb : b < C.length) :
    pcP p (C ++ [⟨3, (a : Int), (b : Int)⟩]) C.length = mulL p (pcP p C a) (pcP p C b) ∧ pcO p (C ++ [⟨3, (a : Int), (b : Int)⟩]) C.length = mulOk p (pcP p C a) (pcP p C b) ∧ degAt (C ++ [⟨3, (a : Int), (b : Int)⟩]) C.length = min (degAt C a + degAt C b) 1000 := by
  have hg : gAt (C ++ [⟨3, (a : Int), (b : Int)⟩]) C.length = ⟨3, (a : Int), (b : Int)⟩ := gAt_end rfl
  have e : pcF p (C ++ [⟨3, (a : Int), (b : Int)⟩]) C.length = pcF p C C.length := pcF_app p C _ C.length (Nat.le_refl _)
  refine ⟨?_, ?_, ?_⟩
  · rw [pcP_eq, hg, e]
    show mulL p (pcF p C C.length (a : Int).toNat) (pcF p C C.length (b : Int).toNat) = _
    rw [Int.toNat_natCast, Int.toNat_natCast, pcF_st p C a _ ha, pcF_st p C b _ hb]
  · unfold pcO
    rw [hg, e]
    show mulOk p (pcF p C C.length (a : Int).toNat) (pcF p C C.length (b : Int).toNat) = _
    rw [Int.toNat_natCast, Int.toNat_natCast, pcF_st p C a _ ha, pcF_st p C b _ hb]
  · rw [deg_three (by rw [hg]) (by rw [hg]; simpa using ha) (by rw [hg]; simpa using hb), hg]
    show min (degAt _ (a : Int).toNat + degAt _ (b : Int).toNat) 1000 = _
    rw [Int.toNat_natCast, Int.toNat_natCast, degAt_app ha, degAt_app hb]
/-! one term -/
def Pws (T : Trm) : Prop := (0 ≤ T.a ∧ T.a ≤ 9) ∧ (0 ≤ T.b ∧ T.b ≤ 9) ∧ (0 ≤ T.c ∧ T.c ≤ 9)
def incT (v : Int) (T : Trm) : Trm := ⟨T.a + (onT v).a, T.b + (onT v).b, T.c + (onT v).c, T.t⟩
theorem one_okC {p : Int} {T : Trm} (hT : Pws T) (ht : 1 ≤ T.t ∧ T.t < p) : validB p [T] = true :=
  validB_of (List.pairwise_singleton _ _) (fun y hy => by rw [List.mem_singleton.1 hy]; exact ht) (fun y hy => by
    rw [List.mem_singleton.1 hy]
    simp only [powsB, powB, Bool.and_eq_true, decide_eq_true_eq]
    exact ⟨⟨hT.1, hT.2.1⟩, hT.2.2⟩) (by simp)
theorem onT_t (v : Int) : (onT v).t = 1 := by unfold onT; split <;> (try split) <;> rfl
theorem onT_pw (v : Int) : Pws (onT v) := by unfold onT; split <;> (try split) <;> (unfold Pws; decide)
theorem onT_deg (v : Int) : degT (onT v) = 1 := by unfold onT; split <;> (try split) <;> rfl
theorem mul_onT {p v : Int} (hp : isP p = true) {T : Trm} (hT : Pws T) (hI : Pws (incT v T)) (ht : 1 ≤ T.t ∧ T.t < p) : mulOk p [T] [onT v] = true ∧ mulL p [T] [onT v] = [incT v T] := by
  have hb := isP_bd hp
  have hm : T.t % p = T.t := Int.emod_eq_of_lt (by omega) ht.2
  have e : prodT p [T] [onT v] = [incT v T] := by simp [prodT, mulTT, incT, onT_t, hm]
  have ht' : 1 ≤ (incT v T).t ∧ (incT v T).t < p := ht
  have e2 : addAll p (prodT p [T] [onT v]) [] = [incT v T] := by
    rw [e]
    refine addAll_is (by omega) List.Pairwise.nil (List.pairwise_singleton _ _) (fun _ h => by cases h) (fun y hy => by rw [List.mem_singleton.1 hy]; exact ht') (fun y hy => by rw [List.mem_singleton.1 hy]; omega) fun m => Cg.of_eq ?_
    simp [wS]
  have hk : mulOk p [T] [onT v] = true := by
    unfold mulOk
    rw [e2, hp, one_okC hT ht, one_okC (onT_pw v) (by rw [onT_t]; omega), one_okC hI ht']
    rfl
  exact ⟨hk, by unfold mulL; rw [if_pos hk, e2]⟩
theorem incT_deg (v : Int) (T : Trm) : degT (incT v T) = degT T + 1 := by
  have := onT_deg v
  unfold degT incT at *
  simp only
  omega
theorem ixG_is {x : Gt} : ∀ {C : List Gt} {k : Nat}, ixG x C = some k → gAt C k = x
  | [], k, h => by cases h
  | y :: r, k, h => by
    unfold ixG at h
    split at h
    · rename_i he
      injection h with h
      subst h
      exact (eqGt_iff.1 he).symm
    · cases e : ixG x r with
      | none => rw [e] at h; cases h
      | some n =>
        rw [e] at h
        have h : n + 1 = k := by simpa using h
        subst h
        exact (ixG_is (C := r) e : gAt r n = x)
/-- a state while a term is made: behind what there is stands the term so far -/
structure TS (p : Int) (sf : Int) (P : List Trm) (dP n2 : Int) (T : Trm) (s : Int × List Gt) : Prop where
  gd : Good p s.2
  cv : Cov s.2 (fun j => (j : Int) = sf ∨ (j : Int) = s.1)
  n2 : cntG 2 s.2 = n2
  lo : -1 ≤ s.1
  yes : 0 ≤ s.1 → s.1 < s.2.length ∧ pcP p s.2 s.1.toNat = [T] ∧ degAt s.2 s.1.toNat = degT T
  no : s.1 < 0 → T = ⟨0, 0, 0, 1⟩
  la : sf < 0 → s.1 = (s.2.length : Int) - 1
  sf : 0 ≤ sf → sf < s.2.length ∧ pcP p s.2 sf.toNat = P ∧ degAt s.2 sf.toNat = dP
/-- the gate of an unknown behind others -/
theorem unk_facts {p : Int} {v : Nat} (hv : v < 3) {C : List Gt} (h : Good p C) : ∃ D, (unkG v C).2 = C ++ D ∧ Good p (C ++ D) ∧ (unkG v C).1 < (C ++ D).length ∧ gAt (C ++ D) (unkG v C).1 = ⟨0, (v : Int), 0⟩ ∧ cntG 2 (C ++ D) = cntG 2 C ∧
    (∀ S, Cov C S → Cov (C ++ D) (fun j => S j ∨ j = (unkG v C).1)) ∧ (C = [] → (unkG v C).1 = 0 ∧ (C ++ D).length = 1) := by
  have hgk : ∀ i : Int, gOK (p - 1) ⟨0, (v : Int), 0⟩ i = true := fun i => by
    have : v = 0 ∨ v = 1 ∨ v = 2 := by omega
    rcases this with rfl | rfl | rfl <;> rfl
  cases e : ixG ⟨0, (v : Int), 0⟩ C with
  | some n =>
    have h1 := ixG_lt e
    unfold unkG
    rw [shr_hit e]
    refine ⟨[], by simp, by simpa using h, by simpa using h1, ?_, by simp, fun S hS => by simpa using hS.mono fun j h => .inl h, fun e0 => by rw [e0] at h1; simp at h1⟩
    rw [List.append_nil]
    exact ixG_is e
  | none =>
    unfold unkG
    rw [shr_new e]
    refine ⟨[⟨0, (v : Int), 0⟩], rfl, h.snoc (hgk _) (at_unk (gAt_end rfl)).2.1, by simp, gAt_end rfl, by rw [cntG_snoc]; simp, fun S hS => hS.snoc _, fun e0 => by rw [e0]; simp⟩
theorem TS.pow {p sf dP n2 : Int} {P : List Trm} {T : Trm} {s : Int × List Gt} (hp : isP p = true) {v : Nat} (hv : v < 3) (h : TS p sf P dP n2 T s) (hT : Pws T) (hI : Pws (incT v T)) (ht : 1 ≤ T.t ∧ T.t < p) :
    TS p sf P dP n2 (incT v T) (jnG 3 s.1 ((unkG v s.2).1 : Nat) (unkG v s.2).2) := by
  obtain ⟨D, e, g1, g2, g3, g4, g5, g6⟩ := unk_facts hv h.gd
  obtain ⟨u, hu⟩ : ∃ u, u = (unkG v s.2).1 := ⟨_, rfl⟩
  rw [← hu] at g2 g3 g5 g6 ⊢
  rw [e]
  have hl : s.2.length ≤ (s.2 ++ D).length := by simp
  have hun := at_unk (p := p) g3
  unfold jnG
  split
  · rename_i hs
    have hT0 := h.no hs
    have hT1 : incT v T = onT v := by
      rw [hT0]
      unfold incT
      have := onT_t (v : Int)
      simp only [Int.zero_add]
      rw [← this]
    refine ⟨g1, (g5 _ h.cv).mono fun j hj => ?_, by rw [g4]; exact h.n2, by show -1 ≤ ((u : Nat) : Int); omega, fun _ => ⟨by show ((u : Nat) : Int) < ((s.2 ++ D).length : Int); omega, ?_, ?_⟩, fun hn => ?_, fun hs2 => ?_, fun h0 => ?_⟩
    · rcases hj with (hj | hj) | hj
      · exact .inl hj
      · have := h.lo; omega
      · exact .inr (by show (j : Int) = ((u : Nat) : Int); omega)
    · show pcP p (s.2 ++ D) (((u : Nat) : Int).toNat) = _
      rw [Int.toNat_natCast, hun.1, hT1]
    · show degAt (s.2 ++ D) (((u : Nat) : Int).toNat) = _
      rw [Int.toNat_natCast, hun.2.2, hT1, onT_deg]
    · have hn : ((u : Nat) : Int) < 0 := hn
      omega
    · have h1 := h.la hs2
      have h2 := h.lo
      have h3 := g6 (List.length_eq_zero_iff.1 (by omega))
      show ((u : Nat) : Int) = ((s.2 ++ D).length : Int) - 1
      omega
    · obtain ⟨a, b, c⟩ := h.sf h0
      exact ⟨by show sf < ((s.2 ++ D).length : Int); omega, by rw [← b]; exact pcP_app (by omega), by rw [← c]; exact degAt_app (by omega)⟩
  · rename_i hs
    obtain ⟨y1, y2, y3⟩ := h.yes (by omega)
    obtain ⟨a, ha⟩ : ∃ a : Nat, a = s.1.toNat := ⟨_, rfl⟩
    have hs1 : s.1 = (a : Int) := by omega
    rw [← ha] at y2 y3
    rw [hs1]
    have hal : a < (s.2 ++ D).length := by omega
    have lm := last_mul (p := p) hal g2
    rw [pcP_app (show a < s.2.length by omega), y2, hun.1, degAt_app (show a < s.2.length by omega), y3, hun.2.2] at lm
    have mo := mul_onT (v := (v : Int)) hp hT hI ht
    have hlen : ((s.2 ++ D) ++ [(⟨3, (a : Int), (u : Int)⟩ : Gt)]).length = (s.2 ++ D).length + 1 := by rw [List.length_append]; rfl
    have hd : degT (incT v T) ≤ 27 := by unfold Pws at hI; unfold degT; omega
    refine ⟨g1.snoc (gOK_join (.inr rfl) (by omega) (by omega)) (by rw [lm.2.1]; exact mo.1), ?_, ?_, by show (-1 : Int) ≤ ((s.2 ++ D).length : Int); omega, fun _ => ⟨by show ((s.2 ++ D).length : Int) < (((s.2 ++ D) ++ [(⟨3, (a : Int), (u : Int)⟩ : Gt)]).length : Int); omega, ?_, ?_⟩, fun hn => ?_, fun hs2 => ?_, fun h0 => ?_⟩
    · refine (Cov.join (S := fun j => (j : Int) = sf) (.inr rfl) ((g5 _ h.cv).mono fun j hj => ?_)).mono fun j hj => ?_
      · rcases hj with (hj | hj) | hj
        · exact .inl hj
        · exact .inr (.inl (by omega))
        · exact .inr (.inr hj)
      · rcases hj with hj | hj
        · exact .inl hj
        · exact .inr (by show (j : Int) = ((s.2 ++ D).length : Int); omega)
    · show cntG 2 ((s.2 ++ D) ++ [⟨3, (a : Int), (u : Int)⟩]) = n2
      rw [cntG_snoc, g4, h.n2]
      simp
    · show pcP p _ (((s.2 ++ D).length : Int).toNat) = _
      rw [Int.toNat_natCast, lm.1, mo.2]
    · show degAt _ (((s.2 ++ D).length : Int).toNat) = _
      rw [Int.toNat_natCast, lm.2.2]
      rw [incT_deg] at hd ⊢
      omega
    · have hn : ((s.2 ++ D).length : Int) < 0 := hn
      omega
    · show ((s.2 ++ D).length : Int) = (((s.2 ++ D) ++ [(⟨3, (a : Int), (u : Int)⟩ : Gt)]).length : Int) - 1
      omega
    · obtain ⟨a', b, c⟩ := h.sf h0
      have hsl : sf.toNat < (s.2 ++ D).length := by omega
      exact ⟨by show sf < (((s.2 ++ D) ++ [(⟨3, (a : Int), (u : Int)⟩ : Gt)]).length : Int); omega, by show pcP p ((s.2 ++ D) ++ _) _ = _; rw [pcP_app hsl, pcP_app (by omega)]; exact b, by show degAt ((s.2 ++ D) ++ _) _ = _; rw [degAt_app hsl, degAt_app (by omega)]; exact c⟩
end Go.Proofs.YtoeghbcolpailaaGreat
namespace Go.Proofs.YtoeghbcolpailaaGreat
open Go.RowKit
def incK (v : Int) (T : Trm) : Nat → Trm
  | 0 => T
  | n + 1 => incT v (incK v T n)
theorem incK_0 (T : Trm) : ∀ n : Nat, incK ((0 : Nat) : Int) T n = ⟨T.a + n, T.b, T.c, T.t⟩
  | 0 => by simp [incK]
  | n + 1 => by
    rw [incK, incK_0 T n]
    simp [incT, onT]
    omega
theorem incK_1 (T : Trm) : ∀ n : Nat, incK ((1 : Nat) : Int) T n = ⟨T.a, T.b + n, T.c, T.t⟩
  | 0 => by simp [incK]
  | n + 1 => by
    rw [incK, incK_1 T n]
    simp [incT, onT]
    omega
theorem incK_2 (T : Trm) : ∀ n : Nat, incK ((2 : Nat) : Int) T n = ⟨T.a, T.b, T.c + n, T.t⟩
  | 0 => by simp [incK]
  | n + 1 => by
    rw [incK, incK_2 T n]
    simp [incT, onT]
    omega
theorem incK_t (v : Int) (T : Trm) : ∀ n : Nat, (incK v T n).t = T.t
  | 0 => rfl
  | n + 1 => incK_t v T n
theorem TS.pows {p sf dP n2 : Int} {P : List Trm} {T : Trm} {s : Int × List Gt} (hp : isP p = true) {v : Nat} (hv : v < 3) (h : TS p sf P dP n2 T s) (ht : 1 ≤ T.t ∧ T.t < p) : ∀ n : Nat, (∀ m, m ≤ n → Pws (incK (v : Int) T m)) → TS p sf P dP n2 (incK (v : Int) T n) (powG v n s)
  | 0, _ => h
  | n + 1, hm => (h.pows hp hv ht n (fun m hm' => hm m (by omega))).pow hp hv (hm n (by omega)) (hm (n + 1) (Nat.le_refl _)) (by rw [incK_t]; exact ht)
/-- a state between terms -/
structure PS (p : Int) (L : List Trm) (k : Nat) (s : Int × List Gt) : Prop where
  gd : Good p s.2
  cv : Cov s.2 (fun j => (j : Int) = s.1)
  n2 : cntG 2 s.2 = max ((k : Int) - 1) 0
  la : s.1 = (s.2.length : Int) - 1
  yes : 0 < k → 0 ≤ s.1 ∧ pcP p s.2 s.1.toNat = L.take k ∧ degAt s.2 s.1.toNat = topK degT L k
  zero : k = 0 → s.1 = -1
theorem PS.bgn {p : Int} {L : List Trm} {k : Nat} {s : Int × List Gt} (h : PS p L k s) {x : Trm} (ht : 1 ≤ x.t ∧ x.t < p) : TS p s.1 (if 0 < k then L.take k else pcP p s.2 s.1.toNat) (degAt s.2 s.1.toNat) (max ((k : Int) - 1) 0) ⟨0, 0, 0, x.t⟩ (bgnG x s.2) := by
  have hP : pcP p s.2 s.1.toNat = (if 0 < k then L.take k else pcP p s.2 s.1.toNat) := by
    split
    · rename_i hk; exact (h.yes hk).2.1
    · rfl
  have hla := h.la
  generalize (if 0 < k then L.take k else pcP p s.2 s.1.toNat) = P at *
  unfold bgnG
  split
  · have ll := last_leaf (p := p) s.2 x.t
    have hlen : (s.2 ++ [(⟨1, x.t, 0⟩ : Gt)]).length = s.2.length + 1 := by rw [List.length_append]; rfl
    refine ⟨h.gd.snoc (by simp [gOK, inB]; omega) ll.2.1, (h.cv.snoc _).mono fun j hj => ?_, ?_, by show (-1 : Int) ≤ (s.2.length : Int); omega, fun _ => ⟨by show (s.2.length : Int) < ((s.2 ++ [(⟨1, x.t, 0⟩ : Gt)]).length : Int); omega, ?_, ?_⟩, fun hn => ?_, fun _ => by show (s.2.length : Int) = ((s.2 ++ [(⟨1, x.t, 0⟩ : Gt)]).length : Int) - 1; omega, fun h0 => ⟨by show s.1 < ((s.2 ++ [(⟨1, x.t, 0⟩ : Gt)]).length : Int); omega, ?_, ?_⟩⟩
    · rcases hj with hj | hj
      · exact .inl hj
      · exact .inr (by show (j : Int) = (s.2.length : Int); omega)
    · show cntG 2 (s.2 ++ [⟨1, x.t, 0⟩]) = _
      rw [cntG_snoc, h.n2]
      simp
    · show pcP p _ ((s.2.length : Int).toNat) = _
      rw [Int.toNat_natCast, ll.1]
      unfold cnL
      rw [if_neg (by omega)]
    · show degAt _ ((s.2.length : Int).toNat) = _
      rw [Int.toNat_natCast, ll.2.2]
      rfl
    · have hn : (s.2.length : Int) < 0 := hn
      omega
    · show pcP p (s.2 ++ _) _ = _
      rw [pcP_app (by omega)]
      exact hP
    · exact degAt_app (by omega)
  · rename_i hb
    have ht1 : x.t = 1 := by
      unfold bgnB at hb
      simp only [Bool.or_eq_true, bne_iff_ne, ne_eq, beq_iff_eq, not_or, Decidable.not_not] at hb
      exact hb.1
    refine ⟨h.gd, h.cv.mono fun j hj => .inl hj, h.n2, by show (-1 : Int) ≤ -1; omega, fun hn => ?_, fun _ => by rw [ht1], fun hn => ?_, fun h0 => ⟨by show s.1 < (s.2.length : Int); omega, hP, rfl⟩⟩
    · have hn : (0 : Int) ≤ -1 := hn
      omega
    · show (-1 : Int) = (s.2.length : Int) - 1
      omega
theorem TS.term {p : Int} {L : List Trm} {k : Nat} {s : Int × List Gt} (hp : isP p = true) (h : PS p L k s) {x : Trm} (ht : 1 ≤ x.t ∧ x.t < p) (hx : Pws x) : TS p s.1 (if 0 < k then L.take k else pcP p s.2 s.1.toNat) (degAt s.2 s.1.toNat) (max ((k : Int) - 1) 0) x (trmG x s.2 3) := by
  unfold Pws at hx
  have h0 := h.bgn ht
  have e0 : ((x.a.toNat : Nat) : Int) = x.a := Int.toNat_of_nonneg hx.1.1
  have e1 : ((x.b.toNat : Nat) : Int) = x.b := Int.toNat_of_nonneg hx.2.1.1
  have e2 : ((x.c.toNat : Nat) : Int) = x.c := Int.toNat_of_nonneg hx.2.2.1
  have h1 := h0.pows hp (v := 0) (by omega) ht x.a.toNat (fun m hm => by rw [incK_0]; unfold Pws; simp only; omega)
  rw [incK_0] at h1
  have h2 := h1.pows hp (v := 1) (by omega) ht x.b.toNat (fun m hm => by rw [incK_1]; unfold Pws; simp only; omega)
  rw [incK_1] at h2
  have h3 := h2.pows hp (v := 2) (by omega) ht x.c.toNat (fun m hm => by rw [incK_2]; unfold Pws; simp only; omega)
  rw [incK_2] at h3
  simp only [Int.zero_add, e0, e1, e2] at h3
  exact h3
theorem take_snocC {L : List Trm} {k : Nat} (hk : k < L.length) : L.take (k + 1) = L.take k ++ [L.getD k default] := by
  rw [List.take_succ_eq_append_getElem hk, List.getD_eq_getElem?_getD, List.getElem?_eq_getElem hk, Option.getD_some]
theorem take_okC {p : Int} {L : List Trm} (hV : validB p L = true) (k : Nat) : validB p (L.take k) = true := by
  have hl := validB_len hV
  refine validB_of ((validB_srt hV).sublist (List.take_sublist _ _)) (fun y hy => validB_els hV y (List.mem_of_mem_take hy)) (fun y hy => ?_) (by rw [List.length_take]; omega)
  have h := validB_mem hV (List.mem_of_mem_take hy)
  simp only [powsB, powB, Bool.and_eq_true, decide_eq_true_eq]
  exact ⟨⟨h.1, h.2.1⟩, h.2.2⟩
theorem add_term {p : Int} (hp : isP p = true) {L : List Trm} (hV : validB p L = true) {k : Nat} (hk : k < L.length) : addOk p (L.take k) [L.getD k default] = true ∧ sumV p (L.take k) [L.getD k default] = L.take (k + 1) := by
  have hb := isP_bd hp
  have hm : L.getD k default ∈ L := by rw [List.getD_eq_getElem?_getD, List.getElem?_eq_getElem (by omega), Option.getD_some]; exact List.getElem_mem _
  have hT := validB_mem hV hm
  have ht := validB_els hV _ hm
  have hs : addAll p [L.getD k default] (L.take k) = L.take (k + 1) := by
    have v1 := take_okC hV k
    have v2 := take_okC hV (k + 1)
    refine addAll_is (by omega) (validB_srt v1) (validB_srt v2) (validB_els v1) (validB_els v2) (fun y hy => by rw [List.mem_singleton.1 hy]; omega) fun m => Cg.of_eq ?_
    rw [take_snocC (by omega), wS_app]
  have ha := addOk_of (p := p) (L := L.take k) (M := [L.getD k default]) hp (take_okC hV k) (one_okC hT ht) (by rw [hs]; exact take_okC hV (k + 1))
  exact ⟨ha.1, by rw [ha.2, hs]⟩
theorem PS.all {p : Int} (hp : isP p = true) {L : List Trm} (hV : validB p L = true) : ∀ k, k ≤ L.length → PS p L k (polG L k)
  | 0, _ => ⟨⟨fun j hj => by simp [polG] at hj, fun j hj => by simp [polG] at hj⟩, fun j hj => by simp [polG] at hj, rfl, rfl, fun h => by omega, fun _ => rfl⟩
  | k + 1, hk => by
    have ih := PS.all hp hV k (by omega)
    have hst := (polG_st hV k (by omega)).1
    obtain ⟨x, hx⟩ : ∃ x, x = L.getD k default := ⟨_, rfl⟩
    have hb := validB_el hV (show k < L.length by omega) hx
    have hw := validB_pows hV (show k < L.length by omega) hx
    have tm := TS.term hp ih hb hw
    have t0 : 0 ≤ (trmG x (polG L k).2 3).1 := by
      rcases (trmG_st (C := (polG L k).2) hb hw hst.ok 3 (Nat.le_refl _)).2.2.2 with t | t
      · exact t
      · omega
    have e : polG L (k + 1) = jnG 2 (polG L k).1 (trmG x (polG L k).2 3).1 (trmG x (polG L k).2 3).2 := by rw [hx]; rfl
    have hdx : 0 ≤ degT x := by unfold degT; omega
    rw [e]
    generalize polG L k = s at *
    generalize trmG x s.2 3 = r at *
    obtain ⟨y1, y2, y3⟩ := tm.yes t0
    obtain ⟨b, hbn⟩ : ∃ b : Nat, b = r.1.toNat := ⟨_, rfl⟩
    have hr1 : r.1 = (b : Int) := by omega
    rw [← hbn] at y2 y3
    unfold jnG
    split
    · rename_i hs
      have hk0 : k = 0 := by
        refine Classical.byContradiction fun hn => ?_
        have := (ih.yes (by omega)).1
        omega
      subst hk0
      have h0 : 0 < L.length := by omega
      refine ⟨tm.gd, tm.cv.mono fun j hj => ?_, by rw [tm.n2]; rfl, tm.la hs, fun _ => ⟨t0, ?_, ?_⟩, fun h => by omega⟩
      · rcases hj with hj | hj
        · omega
        · exact hj
      · show pcP p r.2 r.1.toNat = _
        rw [← hbn, y2, take_snocC h0, hx]
        rfl
      · show degAt r.2 r.1.toNat = _
        rw [← hbn, y3]
        show degT x = if (-1 : Int) < degT (L.getD 0 default) then degT (L.getD 0 default) else -1
        rw [← hx, if_pos (by omega)]
    · rename_i hs
      have hk0 : 0 < k := by
        refine Classical.byContradiction fun hn => ?_
        have := ih.zero (by omega)
        omega
      obtain ⟨f1, f2, f3⟩ := tm.sf (by omega)
      rw [if_pos hk0] at f2
      rw [(ih.yes hk0).2.2] at f3
      obtain ⟨a, ha⟩ : ∃ a : Nat, a = s.1.toNat := ⟨_, rfl⟩
      have hs1 : s.1 = (a : Int) := by omega
      rw [← ha] at f2 f3
      have tcv := tm.cv
      rw [hs1, hr1] at tcv
      rw [hs1, hr1]
      have hal : a < r.2.length := by omega
      have hbl : b < r.2.length := by omega
      have ls := last_sum (p := p) hal hbl
      rw [f2, f3, y2, y3, hx] at ls
      have ad := add_term hp hV (show k < L.length by omega)
      have hlen : (r.2 ++ [(⟨2, (a : Int), (b : Int)⟩ : Gt)]).length = r.2.length + 1 := by rw [List.length_append]; rfl
      refine ⟨tm.gd.snoc (gOK_join (.inl rfl) (by omega) (by omega)) (by rw [ls.2.1]; exact ad.1), ?_, ?_, by show (r.2.length : Int) = ((r.2 ++ [(⟨2, (a : Int), (b : Int)⟩ : Gt)]).length : Int) - 1; omega, fun _ => ⟨by show (0 : Int) ≤ (r.2.length : Int); omega, ?_, ?_⟩, fun h => by omega⟩
      · refine (Cov.join (S := fun _ => False) (.inl rfl) (tcv.mono fun j hj => ?_)).mono fun j hj => ?_
        · rcases hj with hj | hj
          · exact .inr (.inl (by omega))
          · exact .inr (.inr (by omega))
        · rcases hj with hj | hj
          · exact hj.elim
          · show (j : Int) = (r.2.length : Int)
            omega
      · show cntG 2 (r.2 ++ [⟨2, (a : Int), (b : Int)⟩]) = _
        rw [cntG_snoc, tm.n2]
        simp
        omega
      · show pcP p _ ((r.2.length : Int).toNat) = _
        rw [Int.toNat_natCast, ls.1, ad.2]
      · show degAt _ ((r.2.length : Int).toNat) = _
        rw [Int.toNat_natCast, ls.2.2]
        show max (topK degT L k) (degT (L.getD k default)) = if topK degT L k < degT (L.getD k default) then degT (L.getD k default) else topK degT L k
        split <;> omega
/-! the whole -/
theorem cov_used {p : Int} {C : List Gt} (hv : circB p C = true) (h : Cov C (fun j => (j : Int) = (C.length : Int) - 1)) : ∀ d j, C.length ≤ j + d → j < C.length → useF C j = true
  | 0, j, h1, h2 => by omega
  | d + 1, j, h1, h2 => by
    rcases h j h2 with hj | ⟨i, hi, hg, hab⟩
    · have := useF_last hv
      rwa [show C.length - 1 = j by omega] at this
    · have hc := gOK_cases ((circB_iff.1 hv).2.2.2 i hi)
      have hk2 : (gAt C i).k = 2 ∨ (gAt C i).k = 3 := by simpa [joinsB] using hg
      have hji : j < i := by omega
      have := use_closed hv hi (cov_used hv h d i (by omega) hi) hg
      rcases hab with e | e
      · rw [show j = (gAt C i).a.toNat by omega]; exact this.1
      · rw [show j = (gAt C i).b.toNat by omega]; exact this.2
theorem cst_true {C : List Gt} {U : Nat → Bool} (kd : Int) : ∀ k, (∀ i, i < k → U i = true) → cst C U kd k = cst C (fun _ => true) kd k
  | 0, _ => rfl
  | k + 1, h => by rw [cst, cst, cst_true kd k (fun i hi => h i (by omega)), h k (by omega)]
/-- all that the law of CircuitOf asks -/
structure CoF (p : Int) (L : List Trm) (C : List Gt) : Prop where
  cb : circB p C = true
  ok : pcOk p C = true
  po : pcV p C = L
  us : (useV p C).length = C.length
  su : costV p C 2 = max ((L.length : Int) - 1) 0
  fd : fdgV p C = max (degV p L) 0
theorem coF_of {p : Int} {L : List Trm} {C : List Gt} (hV : validB p L = true) (hv : circB p C = true) (hg : Good p C) (hc : Cov C (fun j => (j : Int) = (C.length : Int) - 1)) (hP : pcP p C (C.length - 1) = L) (hd : degAt C (C.length - 1) = max (topK degT L L.length) 0) (hs : cntG 2 C = max ((L.length : Int) - 1) 0) : CoF p L C := by
  obtain ⟨hp, h1, h60, _⟩ := circB_iff.1 hv
  have hu : ∀ i, i < C.length → useF C i = true := fun i hi => cov_used hv hc C.length i (by omega) hi
  have ho := pc_good hv fun j hj _ => hg.po j hj
  refine ⟨hv, ho, by unfold pcV; rw [if_pos ho, hP], ?_, ?_, ?_⟩
  · unfold useV
    rw [if_pos hv, (prnL_out hv h60).2, useTo_full _ hu]
  · unfold costV
    rw [if_pos hv, cst_true 2 C.length hu]
    exact hs
  · unfold fdgV degV
    rw [if_pos hv, hp, hV, degL_st _ _ _ (show C.length - 1 < C.length by omega), hd, ← topK_deg]
    rfl
theorem coF {p : Int} {L : List Trm} (hp : isP p = true) (hV : validB p L = true) (hl : (coG L).length ≤ 60) : CoF p L (coG L) := by
  have hv : circB p (coG L) = true := by rw [coB_circ hp hV, decide_eq_true hl]
  have hb := isP_bd hp
  by_cases h : L = []
  · subst h
    have e : coG [] = [⟨1, 0, 0⟩] := rfl
    rw [e] at hv ⊢
    have ll := last_leaf (p := p) [] 0
    have hg : Good p ([] ++ [⟨1, 0, 0⟩]) := Good.snoc ⟨fun j hj => by simp at hj, fun j hj => by simp at hj⟩ (by simp [gOK, inB]; omega) ll.2.1
    exact coF_of hV hv hg (fun j hj => .inl (by simp at hj ⊢; omega)) ll.1 ll.2.2 rfl
  · have h0 : 0 < L.length := List.length_pos_iff.2 h
    have e : coG L = (polG L L.length).2 := by unfold coG; rw [if_neg h]
    have A := PS.all hp hV L.length (Nat.le_refl _)
    rw [e] at hv ⊢
    generalize polG L L.length = s at *
    obtain ⟨y1, y2, y3⟩ := A.yes h0
    have hla := A.la
    have es : s.1.toNat = s.2.length - 1 := by omega
    rw [es] at y2 y3
    rw [List.take_length] at y2
    refine coF_of hV hv A.gd (A.cv.mono fun j hj => by omega) y2 ?_ A.n2
    rw [y3]
    have := topK_ge (f := degT) (L := L) (y := L.getD 0 default) (by rw [List.getD_eq_getElem?_getD, List.getElem?_eq_getElem h0, Option.getD_some]; exact List.getElem_mem _)
    have hw := validB_pows hV h0 rfl
    have hd : 0 ≤ degT (L.getD 0 default) := by unfold degT; omega
    omega
end Go.Proofs.YtoeghbcolpailaaGreat
