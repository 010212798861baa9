/-
  Sums and products of polynomials as lists of terms: order, values, degrees. Mathematics alone. Conditions: the lists are polynomials over one field.
  A polynomial with exponents below the prime is known by its values at all points: each of its elements is a sum of values. Mathematics alone. Conditions: none.
  What the laws on sums and products say, of the contracts' values. Conditions: none.
  The laws' comparison of polynomials, at any lists: it says whether they are equal. Conditions: what the slices hold is known.
-/
import Derived.Test.YtajabchbdhjdiaaBf1
import Derived.Test.YtajabchbdhjdiaaBa25
import Derived.Test.YtajabchbdhjdiaaBa14
import Derived.Test.YtajabchbdhjdiaaBa20
import Derived.Test.YtajabchbdhjdiaaBe2
import Derived.Test.YtajabchbdhjdiaaBa28
namespace Go.Proofs.Ytajabchbdhjdiaa
theorem addAll_eq {p : Int} (hp : 0 < p) {xs ys L M : List Trm} (hL : Srt L) (hM : Srt M) (eL : Els p L) (eM : Els p M) (hx : ∀ x ∈ xs, 0 ≤ x.t ∧ x.t < p) (hy : ∀ x ∈ ys, 0 ≤ x.t ∧ x.t < p)
    (h : ∀ m, Cg p (wS m L + wS m xs) (wS m M + wS m ys)) : addAll p xs L = addAll p ys M :=
  ind_inj (addAll_srt _ _ hL) (addAll_srt _ _ hM) (addAll_els hp _ _ hx eL) (addAll_els hp _ _ hy eM) fun _ _ _ => (wS_addAll _ _ _).trans ((h _).trans (wS_addAll _ _ _).symm)
theorem addAll_is {p : Int} (hp : 0 < p) {xs L M : List Trm} (hL : Srt L) (hM : Srt M) (eL : Els p L) (eM : Els p M) (hx : ∀ x ∈ xs, 0 ≤ x.t ∧ x.t < p)
    (h : ∀ m, Cg p (wS m L + wS m xs) (wS m M)) : addAll p xs L = M :=
  ind_inj (addAll_srt _ _ hL) hM (addAll_els hp _ _ hx eL) eM fun _ _ _ => (wS_addAll _ _ _).trans (h _)
theorem els_in {p : Int} {L : List Trm} (h : Els p L) : ∀ x ∈ L, 0 ≤ x.t ∧ x.t < p := fun x hx => by have := h x hx; omega
/-- the powers in a sum are those of what was added -/
theorem addT_mem {p : Int} {x y : Trm} {L : List Trm} (h : y ∈ addT p x L) : y ∈ L ∨ (x.t ≠ 0 ∧ y.a = x.a ∧ y.b = x.b ∧ y.c = x.c) := by
  unfold addT at h
  split at h
  · exact .inl h
  · rename_i h0
    split at h
    · split at h
      · rcases List.mem_append.1 h with h | h
        · exact .inl (List.mem_of_mem_take h)
        · exact .inl (List.mem_of_mem_drop h)
      · rcases List.mem_append.1 h with h | h
        · exact .inl (List.mem_of_mem_take h)
        · rcases List.mem_cons.1 h with rfl | h
          · exact .inr ⟨h0, rfl, rfl, rfl⟩
          · exact .inl (List.mem_of_mem_drop h)
    · rcases List.mem_append.1 h with h | h
      · exact .inl (List.mem_of_mem_take h)
      · rcases List.mem_cons.1 h with rfl | h
        · exact .inr ⟨h0, rfl, rfl, rfl⟩
        · exact .inl (List.mem_of_mem_drop h)
theorem addAll_mem {p : Int} {y : Trm} : ∀ {xs L : List Trm}, y ∈ addAll p xs L → y ∈ L ∨ ∃ x ∈ xs, x.t ≠ 0 ∧ y.a = x.a ∧ y.b = x.b ∧ y.c = x.c
  | [], _, h => .inl h
  | x :: xs, L, h => by
    rcases addAll_mem (xs := xs) (L := addT p x L) h with h | ⟨z, hz, h⟩
    · rcases addT_mem h with h | h
      · exact .inl h
      · exact .inr ⟨x, List.mem_cons_self .., h⟩
    · exact .inr ⟨z, List.mem_cons_of_mem _ hz, h⟩
theorem ind_mem {p a b c : Int} {L : List Trm} (h : ¬ Cg p (wS (indM a b c) L) 0) : ∃ y ∈ L, y.a = a ∧ y.b = b ∧ y.c = c := by
  apply Classical.byContradiction
  intro hn
  exact h (Cg.of_eq (ind_none fun y hy e => hn ⟨y, hy, e⟩))
/-- the greatest of some numbers of terms, -1 of none -/
def topK (f : Trm → Int) (L : List Trm) : Nat → Int
  | 0 => -1
  | k + 1 => if topK f L k < f (L.getD k default) then f (L.getD k default) else topK f L k
theorem topK_deg (L : List Trm) : ∀ k, degK L k = topK degT L k
  | 0 => rfl
  | k + 1 => by unfold degK topK; rw [topK_deg L k]
theorem topK_in (L : List Trm) (v : Int) : ∀ k, degI L v k = topK (pw v) L k
  | 0 => rfl
  | k + 1 => by unfold degI topK; rw [topK_in L v k]
theorem topK_le {f : Trm → Int} {L : List Trm} {d : Int} (hd : -1 ≤ d) (h : ∀ y ∈ L, f y ≤ d) : ∀ k, k ≤ L.length → topK f L k ≤ d
  | 0, _ => hd
  | k + 1, hk => by
    have ih := topK_le hd h k (by omega)
    unfold topK
    split
    · exact h _ (by simp [List.getD_eq_getElem?_getD, List.getElem?_eq_getElem (show k < L.length by omega)])
    · exact ih
theorem topK_mono {f : Trm → Int} {L : List Trm} {j : Nat} : ∀ k, j < k → f (L.getD j default) ≤ topK f L k
  | 0, h => by omega
  | k + 1, h => by
    by_cases e : j = k
    · subst e
      unfold topK
      split <;> omega
    · have := topK_mono (f := f) (L := L) (j := j) k (by omega)
      unfold topK
      split <;> omega
theorem topK_ge {f : Trm → Int} {L : List Trm} {y : Trm} (h : y ∈ L) : f y ≤ topK f L L.length := by
  obtain ⟨j, hj, rfl⟩ := List.getElem_of_mem h
  have := topK_mono (f := f) (L := L) L.length hj
  simpa [List.getD_eq_getElem?_getD, hj] using this
theorem topK_min (f : Trm → Int) (L : List Trm) : ∀ k, -1 ≤ topK f L k
  | 0 => Int.le_refl _
  | k + 1 => by
    have := topK_min f L k
    unfold topK
    split <;> omega
/-- the one that is reached -/
theorem topK_at {f : Trm → Int} {L : List Trm} : ∀ k, k ≤ L.length → 0 ≤ topK f L k → ∃ y ∈ L, f y = topK f L k
  | 0, _, h => absurd (show (0 : Int) ≤ -1 from h) (by decide)
  | k + 1, hk, h => by
    unfold topK at h ⊢
    split
    · exact ⟨_, by simp [List.getD_eq_getElem?_getD, List.getElem?_eq_getElem (show k < L.length by omega)], rfl⟩
    · rename_i hn
      rw [if_neg hn] at h
      exact topK_at k (by omega) h
theorem validB_mem {p : Int} {L : List Trm} (h : validB p L = true) {y : Trm} (hy : y ∈ L) : (0 ≤ y.a ∧ y.a ≤ 9) ∧ (0 ≤ y.b ∧ y.b ≤ 9) ∧ (0 ≤ y.c ∧ y.c ≤ 9) := by
  obtain ⟨k, hk, rfl⟩ := List.getElem_of_mem hy
  exact validB_pows h hk (x := L[k]) (by simp [List.getD_eq_getElem?_getD, hk])
/-- the powers of a point -/
def mon (x y z : Int) : Int → Int → Int → Int := fun a b c => x ^ a.toNat * y ^ b.toNat * z ^ c.toNat
theorem valT_cg (p x y z : Int) (T : Trm) : Cg p (valT p x y z T) (T.t * mon x y z T.a T.b T.c) := by
  unfold valT mon
  refine (Cg.mod _ _).trans ?_
  refine (Cg.mul ((Cg.mod _ _).trans (Cg.mul ((Cg.mod _ _).trans (Cg.mul (Cg.refl p T.t) (Cg.mod p _))) (Cg.mod p _))) (Cg.mod p _)).trans (Cg.of_eq ?_)
  grind
theorem evK_cg (p x y z : Int) (L : List Trm) : ∀ k, k ≤ L.length → Cg p (evK p x y z L k) (wS (mon x y z) (L.take k))
  | 0, _ => Cg.of_eq (by simp [evK, wS])
  | k + 1, hk => by
    have ih := evK_cg p x y z L k (by omega)
    rw [List.take_succ_eq_append_getElem (show k < L.length by omega), wS_app]
    unfold evK
    refine (Cg.mod _ _).trans (ih.add ?_)
    rw [show L.getD k default = L[k] by simp [List.getD_eq_getElem?_getD, List.getElem?_eq_getElem (show k < L.length by omega)]]
    exact (valT_cg ..).trans (Cg.of_eq (by simp [wS]))
theorem evK_all (p x y z : Int) (L : List Trm) : Cg p (evK p x y z L L.length) (wS (mon x y z) L) := by
  have := evK_cg p x y z L L.length (Nat.le_refl _)
  rwa [List.take_length] at this
/-- the value is known by the sum -/
theorem evK_is {p x y z n : Int} {L : List Trm} (hp : isP p = true) (h : Cg p (wS (mon x y z) L) n) (hn : 0 ≤ n ∧ n < p) : evK p x y z L L.length = n :=
  ((evK_all p x y z L).trans h).eq (evK_bd hp x y z L L.length) hn
theorem scl_wS {p a : Int} {L : List Trm} (m : Int → Int → Int → Int) : Cg p (wS m (sclL p a L)) (a * wS m L) := by
  unfold sclL
  split
  · rename_i h
    rw [h]
    exact Cg.of_eq (by simp [wS])
  · rw [wS_map, wS_sum, ← sumI_mul]
    refine sumI_cg fun x _ => ?_
    unfold sclT
    exact ((Cg.mod p _).mul (Cg.refl _ _)).trans (Cg.of_eq (by grind))
/-- the sum of two polynomials, the other way round -/
theorem add_comm {p : Int} (hp : isP p = true) {L M : List Trm} (hL : validB p L = true) (hM : validB p M = true) : addAll p L M = addAll p M L :=
  have hb := isP_bd hp
  addAll_eq (by omega) (validB_srt hM) (validB_srt hL) (validB_els hM) (validB_els hL) (els_in (validB_els hL)) (els_in (validB_els hM)) fun _ => Cg.of_eq (by omega)
/-- what was added is taken away -/
theorem add_back {p : Int} (hp : isP p = true) {L M : List Trm} (hL : validB p L = true) (hM : validB p M = true) : addAll p (sclL p (p - 1) M) (addAll p M L) = L := by
  have hb := isP_bd hp
  have hs : validB p (sclL p (p - 1) M) = true := scl_valid hp (isE_iff.2 (by omega)) hM
  refine addAll_is (by omega) (addAll_srt _ _ (validB_srt hL)) (validB_srt hL) (addAll_els (by omega) _ _ (els_in (validB_els hM)) (validB_els hL)) (validB_els hL) (els_in (validB_els hs)) fun m => ?_
  refine ((wS_addAll m _ _).add (scl_wS m)).trans ⟨wS m M, ?_⟩
  grind
theorem add_ev {p x y z : Int} (hp : isP p = true) {L M : List Trm} : evK p x y z (addAll p M L) (addAll p M L).length = (evK p x y z L L.length + evK p x y z M M.length) % p := by
  have hb := isP_bd hp
  exact evK_is hp ((wS_addAll _ _ _).trans (((evK_all p x y z L).symm.add (evK_all p x y z M).symm).trans (Cg.mod _ _).symm)) (emod_bd (by omega))
theorem add_top {p : Int} (f : Trm → Int) (hf : ∀ x y : Trm, x.a = y.a → x.b = y.b → x.c = y.c → f x = f y) {L M : List Trm} : topK f (addAll p M L) (addAll p M L).length ≤ max (topK f L L.length) (topK f M M.length) := by
  have h1 := topK_min f L L.length
  have h2 := topK_min f M M.length
  refine topK_le (by omega) (fun y hy => ?_) _ (Nat.le_refl _)
  rcases addAll_mem hy with h | ⟨x, hx, _, e1, e2, e3⟩
  · have := topK_ge (f := f) h
    omega
  · have := topK_ge (f := f) hx
    have := hf y x e1 e2 e3
    omega
theorem degT_eq (x y : Trm) (h1 : x.a = y.a) (h2 : x.b = y.b) (h3 : x.c = y.c) : degT x = degT y := by unfold degT; omega
theorem pw_eq (v : Int) (x y : Trm) (h1 : x.a = y.a) (h2 : x.b = y.b) (h3 : x.c = y.c) : pw v x = pw v y := by
  unfold pw
  repeat' split
  all_goals assumption
/-- products of lists of terms -/
theorem prod_wS {p : Int} (m : Int → Int → Int → Int) (L M : List Trm) : Cg p (wS m (prodT p L M)) (sumI (fun x => sumI (fun y => x.t * y.t * m (x.a + y.a) (x.b + y.b) (x.c + y.c)) M) L) := by
  unfold prodT
  rw [wS_bind]
  refine sumI_cg fun x _ => ?_
  rw [wS_map]
  exact sumI_cg fun y _ => (Cg.mod p _).mul (Cg.refl _ _)
theorem prod_in {p : Int} (hp : 0 < p) {L M : List Trm} : ∀ x ∈ prodT p L M, 0 ≤ x.t ∧ x.t < p := by
  intro x hx
  obtain ⟨y, _, h⟩ := List.mem_flatMap.1 hx
  obtain ⟨z, _, rfl⟩ := List.mem_map.1 h
  exact ⟨Int.emod_nonneg _ (by omega), Int.emod_lt_of_pos _ hp⟩
theorem mul_comm' {p : Int} (hp : isP p = true) {L M : List Trm} : addAll p (prodT p M L) [] = addAll p (prodT p L M) [] := by
  have hb := isP_bd hp
  refine addAll_eq (by omega) List.Pairwise.nil List.Pairwise.nil (fun _ h => by cases h) (fun _ h => by cases h) (prod_in (by omega)) (prod_in (by omega)) fun m => (Cg.refl p _).add ?_
  refine (prod_wS m M L).trans (Cg.trans (Cg.of_eq ?_) (prod_wS m L M).symm)
  rw [sumI_swap]
  exact sumI_congr fun x _ => sumI_congr fun y _ => by rw [Int.mul_comm y.t, Int.add_comm y.a, Int.add_comm y.b, Int.add_comm y.c]
theorem mon_add {x y z a b c d e f : Int} (ha : 0 ≤ a) (hb : 0 ≤ b) (hc : 0 ≤ c) (hd : 0 ≤ d) (he : 0 ≤ e) (hf : 0 ≤ f) : mon x y z (a + d) (b + e) (c + f) = mon x y z a b c * mon x y z d e f := by
  unfold mon
  rw [Int.toNat_add ha hd, Int.toNat_add hb he, Int.toNat_add hc hf, Int.pow_add, Int.pow_add, Int.pow_add]
  grind
theorem mul_ev {p x y z : Int} (hp : isP p = true) {L M : List Trm} (hL : validB p L = true) (hM : validB p M = true) : evK p x y z (addAll p (prodT p L M) []) (addAll p (prodT p L M) []).length = (evK p x y z L L.length * evK p x y z M M.length) % p := by
  have hb := isP_bd hp
  refine evK_is hp ((wS_addAll _ _ _).trans ?_) (emod_bd (by omega))
  refine Cg.trans ?_ (((evK_all p x y z L).symm.mul (evK_all p x y z M).symm).trans (Cg.mod _ _).symm)
  refine ((Cg.refl p _).add (prod_wS _ L M)).trans (Cg.of_eq ?_)
  rw [show wS (mon x y z) [] = 0 from rfl, Int.zero_add, wS_sum, wS_sum, Int.mul_comm, ← sumI_mul]
  refine sumI_congr fun u hu => ?_
  rw [Int.mul_comm, ← sumI_mul]
  refine sumI_congr fun v hv => ?_
  obtain ⟨⟨a0, _⟩, ⟨b0, _⟩, ⟨c0, _⟩⟩ := validB_mem hL hu
  obtain ⟨⟨d0, _⟩, ⟨e0, _⟩, ⟨f0, _⟩⟩ := validB_mem hM hv
  rw [mon_add a0 b0 c0 d0 e0 f0]
  grind
/-- the term that stands first by a weight, and by the order of powers -/
theorem top_one (f : Trm → Int) : ∀ {L : List Trm}, Srt L → L ≠ [] → ∃ x ∈ L, ∀ y ∈ L, f y < f x ∨ (f y = f x ∧ (y = x ∨ bef x y = true))
  | [], _, h => absurd rfl h
  | [x], _, _ => ⟨x, List.mem_cons_self .., fun y hy => .inr (by
    have e : y = x := by simpa using hy
    subst e
    exact ⟨rfl, .inl rfl⟩)⟩
  | x :: z :: r, hs, _ => by
    obtain ⟨u, hu, h⟩ := top_one f (L := z :: r) (List.pairwise_cons.1 hs).2 (by simp)
    have hxu := (List.pairwise_cons.1 hs).1 u hu
    by_cases hle : f u ≤ f x
    · refine ⟨x, List.mem_cons_self .., fun y hy => ?_⟩
      rcases List.mem_cons.1 hy with rfl | hy
      · exact .inr ⟨rfl, .inl rfl⟩
      · have hxy := (List.pairwise_cons.1 hs).1 y hy
        rcases h y hy with h | ⟨h, _⟩
        · exact .inl (by omega)
        · by_cases e : f u = f x
          · exact .inr ⟨by omega, .inr hxy⟩
          · exact .inl (by omega)
    · refine ⟨u, List.mem_cons_of_mem _ hu, fun y hy => ?_⟩
      rcases List.mem_cons.1 hy with rfl | hy
      · exact .inl (by omega)
      · exact h y hy
theorem top_is {f : Trm → Int} {L : List Trm} {x : Trm} (hx : x ∈ L) (h0 : ∀ y ∈ L, 0 ≤ f y) (h : ∀ y ∈ L, f y < f x ∨ (f y = f x ∧ (y = x ∨ bef x y = true))) : topK f L L.length = f x := by
  have h1 := topK_ge (f := f) hx
  have h2 := topK_le (f := f) (L := L) (d := f x) (by have := h0 x hx; omega) (fun y hy => by rcases h y hy with h | h <;> omega) L.length (Nat.le_refl _)
  omega
theorem sumI_one {α : Type} {g : α → Int} {x : α} : ∀ {l : List α}, l.Pairwise (fun u v => u ≠ v) → x ∈ l → (∀ y ∈ l, y ≠ x → g y = 0) → sumI g l = g x
  | [], _, h, _ => by cases h
  | u :: r, hn, hx, h => by
    have hnr := List.pairwise_cons.1 hn
    show g u + sumI g r = g x
    by_cases e : u = x
    · subst e
      rw [show sumI g r = sumI (fun _ => 0) r from sumI_congr fun y hy => h y (List.mem_cons_of_mem _ hy) (fun e => hnr.1 y hy e.symm), sumI_zero]
      omega
    · rcases List.mem_cons.1 hx with rfl | hx
      · exact absurd rfl e
      · rw [h u (List.mem_cons_self ..) e, sumI_one hnr.2 hx fun y hy => h y (List.mem_cons_of_mem _ hy)]
        omega
theorem srt_ne {L : List Trm} (h : Srt L) : L.Pairwise (fun u v => u ≠ v) := h.imp fun {u v} hb e => by subst e; rw [bef_iff] at hb; omega
/-- the first terms of two polynomials make one of the product that does not fall away -/
theorem mul_top {p : Int} (hp : isP p = true) {f : Trm → Int} (hf : ∀ x y : Trm, f (mulTT p x y) = f x + f y) (he : ∀ x y : Trm, x.a = y.a → x.b = y.b → x.c = y.c → f x = f y) {L M : List Trm} (hL : validB p L = true) (hM : validB p M = true)
    (pL : ∀ y ∈ L, 0 ≤ f y) (pM : ∀ y ∈ M, 0 ≤ f y) (nL : L ≠ []) (nM : M ≠ []) :
    topK f (addAll p (prodT p L M) []) (addAll p (prodT p L M) []).length = topK f L L.length + topK f M M.length := by
  have hb := isP_bd hp
  obtain ⟨x, hx, tx⟩ := top_one f (validB_srt hL) nL
  obtain ⟨y, hy, ty⟩ := top_one f (validB_srt hM) nM
  rw [top_is hx pL tx, top_is hy pM ty]
  obtain ⟨H, hH⟩ : ∃ H, H = addAll p (prodT p L M) [] := ⟨_, rfl⟩
  rw [← hH]
  have px := pL x hx
  have py := pM y hy
  have hle : topK f H H.length ≤ f x + f y := by
    refine topK_le (by omega) (fun h hh => ?_) _ (Nat.le_refl _)
    rw [hH] at hh
    rcases addAll_mem hh with h | ⟨z, hz, _, e1, e2, e3⟩
    · cases h
    · obtain ⟨u, hu, h⟩ := List.mem_flatMap.1 hz
      obtain ⟨v, hv, rfl⟩ := List.mem_map.1 h
      rw [he _ _ e1 e2 e3, hf]
      have h1 := tx u hu
      have h2 := ty v hv
      rcases h1 with h1 | h1 <;> rcases h2 with h2 | h2 <;> omega
  have hc : Cg p (wS (indM (x.a + y.a) (x.b + y.b) (x.c + y.c)) H) (x.t * y.t) := by
    rw [hH]
    refine (wS_addAll _ _ _).trans (((Cg.refl p _).add (prod_wS _ L M)).trans (Cg.of_eq ?_))
    rw [show wS (indM (x.a + y.a) (x.b + y.b) (x.c + y.c)) [] = 0 from rfl, Int.zero_add]
    have key : ∀ u ∈ L, ∀ v ∈ M, u.a + v.a = x.a + y.a ∧ u.b + v.b = x.b + y.b ∧ u.c + v.c = x.c + y.c → u = x ∧ v = y := by
      intro u hu v hv ⟨e1, e2, e3⟩
      have e := he (mulTT p u v) (mulTT p x y) e1 e2 e3
      rw [hf, hf] at e
      have h1 := tx u hu
      have h2 := ty v hv
      have f1 : f u = f x := by rcases h1 with h1 | h1 <;> rcases h2 with h2 | h2 <;> omega
      have f2 : f v = f y := by omega
      have h1 : u = x ∨ bef x u = true := by rcases h1 with h1 | h1; omega; exact h1.2
      have h2 : v = y ∨ bef y v = true := by rcases h2 with h2 | h2; omega; exact h2.2
      rcases h1 with h1 | h1
      · rcases h2 with h2 | h2
        · exact ⟨h1, h2⟩
        · subst h1
          rw [bef_iff] at h2
          omega
      · rcases h2 with h2 | h2
        · subst h2
          rw [bef_iff] at h1
          omega
        · rw [bef_iff] at h1 h2
          omega
    rw [sumI_one (x := x) (srt_ne (validB_srt hL)) hx, sumI_one (x := y) (srt_ne (validB_srt hM)) hy]
    · simp [indM]
    · intro v hv hne
      unfold indM
      rw [if_neg, Int.mul_zero]
      intro e
      exact hne (key x hx v hv e).2
    · intro u hu hne
      rw [← sumI_zero M]
      refine sumI_congr fun v hv => ?_
      unfold indM
      rw [if_neg, Int.mul_zero]
      intro e
      exact hne (key u hu v hv e).1
  obtain ⟨h, hh, e1, e2, e3⟩ := ind_mem (p := p) (L := H) (a := x.a + y.a) (b := x.b + y.b) (c := x.c + y.c) (fun h => by
    have h3 := (hc.symm.trans h).emod
    rw [Int.zero_emod] at h3
    exact prime_mul hp (validB_els hL x hx) (validB_els hM y hy) h3)
  have := topK_ge (f := f) hh
  rw [he h (mulTT p x y) e1 e2 e3, hf] at this
  omega
theorem degT_mul (p : Int) (x y : Trm) : degT (mulTT p x y) = degT x + degT y := by unfold degT mulTT; simp only; omega
theorem pw_mul (p v : Int) (x y : Trm) : pw v (mulTT p x y) = pw v x + pw v y := by
  unfold pw mulTT
  repeat' split
  all_goals rfl
theorem mul_nil (p : Int) (L M : List Trm) (h : L = [] ∨ M = []) : addAll p (prodT p L M) [] = [] := by
  rcases h with rfl | rfl
  · rfl
  · have : prodT p L [] = [] := by unfold prodT; simp
    rw [this]
    rfl
end Go.Proofs.Ytajabchbdhjdiaa
namespace Go.Proofs.Ytajabchbdhjdiaa
set_option linter.unusedVariables false
/-- what the value at a counts for the power e -/
def lcN (p e a : Nat) : Nat := if e = 0 then (if a = 0 then 1 else 0) else (p - 1) * a ^ (p - 1 - e)
def sumN (f : Nat → Nat) : Nat → Nat
  | 0 => 0
  | n + 1 => sumN f n + f n
def lcOk (p : Nat) : Bool := (List.range p).all fun e => (List.range p).all fun i => sumN (fun a => lcN p e a * a ^ i) p % p == if i = e then 1 else 0
theorem lc_ok : ([2, 3, 5, 7, 11, 13] : List Nat).all lcOk = true := by decide +kernel
def lcI (p e a : Nat) : Int := (lcN p e a : Int)
theorem sumN_I (f : Nat → Nat) : ∀ n, ((sumN f n : Nat) : Int) = sumI (fun a => (f a : Int)) (List.range n)
  | 0 => rfl
  | n + 1 => by
    rw [List.range_succ]
    have happ : ∀ (l : List Nat) (g : Nat → Int) (x : Nat), sumI g (l ++ [x]) = sumI g l + g x := by
      intro l g x
      induction l with
      | nil => simp [sumI]
      | cons y r ih => show g y + sumI g (r ++ [x]) = g y + sumI g r + g x; rw [ih]; omega
    rw [happ, ← sumN_I f n]
    show ((sumN f n + f n : Nat) : Int) = _
    omega
theorem isP_nat {p : Int} (hp : isP p = true) : ∃ q : Nat, p = (q : Int) ∧ q ∈ ([2, 3, 5, 7, 11, 13] : List Nat) := by
  have h : p = 2 ∨ p = 3 ∨ p = 5 ∨ p = 7 ∨ p = 11 ∨ p = 13 := by simp [isP] at hp; omega
  rcases h with rfl | rfl | rfl | rfl | rfl | rfl
  · exact ⟨2, rfl, by decide⟩
  · exact ⟨3, rfl, by decide⟩
  · exact ⟨5, rfl, by decide⟩
  · exact ⟨7, rfl, by decide⟩
  · exact ⟨11, rfl, by decide⟩
  · exact ⟨13, rfl, by decide⟩
theorem lc_one {q e i : Nat} (hq : q ∈ ([2, 3, 5, 7, 11, 13] : List Nat)) (he : e < q) (hi : i < q) : Cg q (sumI (fun a => lcI q e a * (a : Int) ^ i) (List.range q)) (if i = e then 1 else 0) := by
  have h := List.all_eq_true.1 lc_ok q hq
  unfold lcOk at h
  have h1 := List.all_eq_true.1 (List.all_eq_true.1 h e (List.mem_range.2 he)) i (List.mem_range.2 hi)
  have h2 : sumN (fun a => lcN q e a * a ^ i) q % q = if i = e then 1 else 0 := by simpa using h1
  have h3 : sumI (fun a => lcI q e a * (a : Int) ^ i) (List.range q) = ((sumN (fun a => lcN q e a * a ^ i) q : Nat) : Int) := by
    rw [sumN_I]
    refine sumI_congr fun a _ => ?_
    unfold lcI
    simp
  rw [h3]
  refine Cg.iff.2 ?_
  have h2q : 2 ≤ q := by
    simp only [List.mem_cons, List.not_mem_nil, or_false] at hq
    omega
  have h4 : (((sumN (fun a => lcN q e a * a ^ i) q : Nat) : Int)) % (q : Int) = ((if i = e then 1 else 0 : Nat) : Int) := by rw [← h2]; omega
  rw [h4]
  by_cases hie : i = e
  · rw [if_pos hie, if_pos hie]
    exact (Int.emod_eq_of_lt (by omega) (by omega)).symm
  · rw [if_neg hie, if_neg hie]
    simp
/-- the element at a power, out of the values at all points -/
def cof (q e f g : Nat) (F : Int → Int → Int → Int) : Int :=
  sumI (fun a : Nat => lcI q e a * sumI (fun b : Nat => lcI q f b * sumI (fun c : Nat => lcI q g c * F a b c) (List.range q)) (List.range q)) (List.range q)
theorem cof_cg {q e f g : Nat} {F G : Int → Int → Int → Int} (h : ∀ a b c : Nat, a < q → b < q → c < q → Cg q (F a b c) (G a b c)) : Cg q (cof q e f g F) (cof q e f g G) :=
  sumI_cg fun a ha => (Cg.refl _ _).mul (sumI_cg fun b hb => (Cg.refl _ _).mul (sumI_cg fun c hc => (Cg.refl _ _).mul (h a b c (List.mem_range.1 ha) (List.mem_range.1 hb) (List.mem_range.1 hc))))
theorem sumI_mulr {α : Type} (f : α → Int) (k : Int) (l : List α) : sumI (fun x => f x * k) l = sumI f l * k := by
  rw [Int.mul_comm, ← sumI_mul]
  exact sumI_congr fun x _ => Int.mul_comm _ _
theorem cof_prod (q e f g : Nat) (u v w : Int → Int) (t : Int) : cof q e f g (fun a b c => t * (u a * v b * w c)) =
    t * (sumI (fun a : Nat => lcI q e a * u a) (List.range q) * sumI (fun b : Nat => lcI q f b * v b) (List.range q) * sumI (fun c : Nat => lcI q g c * w c) (List.range q)) := by
  unfold cof
  have h1 : ∀ a b : Nat, sumI (fun c : Nat => lcI q g c * (t * (u a * v b * w c))) (List.range q) = (t * (u a * v b)) * sumI (fun c : Nat => lcI q g c * w c) (List.range q) := by
    intro a b
    rw [← sumI_mul]
    exact sumI_congr fun c _ => by grind
  simp only [h1]
  have h2 : ∀ a : Nat, sumI (fun b : Nat => lcI q f b * ((t * (u a * v b)) * sumI (fun c : Nat => lcI q g c * w c) (List.range q))) (List.range q) = (t * u a * sumI (fun c : Nat => lcI q g c * w c) (List.range q)) * sumI (fun b : Nat => lcI q f b * v b) (List.range q) := by
    intro a
    rw [← sumI_mul]
    exact sumI_congr fun b _ => by grind
  simp only [h2]
  have h3 : sumI (fun a : Nat => lcI q e a * ((t * u a * sumI (fun c : Nat => lcI q g c * w c) (List.range q)) * sumI (fun b : Nat => lcI q f b * v b) (List.range q))) (List.range q) =
      (t * sumI (fun c : Nat => lcI q g c * w c) (List.range q) * sumI (fun b : Nat => lcI q f b * v b) (List.range q)) * sumI (fun a : Nat => lcI q e a * u a) (List.range q) := by
    rw [← sumI_mul]
    exact sumI_congr fun a _ => by grind
  rw [h3]
  grind
theorem cof_add (q e f g : Nat) (F G : Int → Int → Int → Int) : cof q e f g (fun a b c => F a b c + G a b c) = cof q e f g F + cof q e f g G := by
  unfold cof
  rw [← sumI_add]
  refine sumI_congr fun a _ => ?_
  rw [← Int.mul_add, ← sumI_add]
  congr 1
  refine sumI_congr fun b _ => ?_
  rw [← Int.mul_add, ← sumI_add]
  congr 1
  exact sumI_congr fun c _ => Int.mul_add _ _ _
/-- all exponents are from 0 on and below the prime -/
def LowA (p : Int) (L : List Trm) : Prop := ∀ x ∈ L, (0 ≤ x.a ∧ x.a < p) ∧ (0 ≤ x.b ∧ x.b < p) ∧ (0 ≤ x.c ∧ x.c < p)
theorem cof_zero (q e f g : Nat) : cof q e f g (fun _ _ _ => 0) = 0 := by
  unfold cof
  simp only [Int.mul_zero, sumI_zero]
theorem cof_wS {q e f g : Nat} (hq : q ∈ ([2, 3, 5, 7, 11, 13] : List Nat)) (he : e < q) (hf : f < q) (hg : g < q) : ∀ {L : List Trm}, LowA q L → Cg q (cof q e f g (fun a b c => wS (mon a b c) L)) (wS (indM e f g) L)
  | [], _ => Cg.of_eq (cof_zero q e f g)
  | x :: r, h => by
    show Cg q (cof q e f g (fun a b c => x.t * mon a b c x.a x.b x.c + wS (mon a b c) r)) (x.t * indM e f g x.a x.b x.c + wS (indM e f g) r)
    rw [cof_add]
    refine Cg.add ?_ (cof_wS hq he hf hg (fun y hy => h y (List.mem_cons_of_mem _ hy)))
    obtain ⟨⟨a0, a1⟩, ⟨b0, b1⟩, ⟨c0, c1⟩⟩ := h x (List.mem_cons_self ..)
    show Cg q (cof q e f g (fun a b c => x.t * (a ^ x.a.toNat * b ^ x.b.toNat * c ^ x.c.toNat))) _
    rw [cof_prod q e f g (fun a => a ^ x.a.toNat) (fun b => b ^ x.b.toNat) (fun c => c ^ x.c.toNat) x.t]
    refine (Cg.refl _ _).mul ?_
    have k1 := lc_one (i := x.a.toNat) hq he (by omega)
    have k2 := lc_one (i := x.b.toNat) hq hf (by omega)
    have k3 := lc_one (i := x.c.toNat) hq hg (by omega)
    refine ((k1.mul k2).mul k3).trans (Cg.of_eq ?_)
    unfold indM
    have i1 : (x.a.toNat = e) ↔ (x.a = e) := by omega
    have i2 : (x.b.toNat = f) ↔ (x.b = f) := by omega
    have i3 : (x.c.toNat = g) ↔ (x.c = g) := by omega
    simp only [i1, i2, i3]
    by_cases h1 : x.a = e <;> by_cases h2 : x.b = f <;> by_cases h3 : x.c = g <;> simp [h1, h2, h3]
theorem ind_out {p a b c : Int} {L : List Trm} (h : LowA p L) (ho : ¬ ((0 ≤ a ∧ a < p) ∧ (0 ≤ b ∧ b < p) ∧ (0 ≤ c ∧ c < p))) : wS (indM a b c) L = 0 :=
  ind_none fun y hy e => ho (by have := h y hy; rw [e.1, e.2.1, e.2.2] at this; exact this)
/-- **with exponents below the prime, what has the same values is the same** -/
theorem uniq {p : Int} (hp : isP p = true) {L M : List Trm} (sL : Srt L) (sM : Srt M) (eL : Els p L) (eM : Els p M) (hL : LowA p L) (hM : LowA p M)
    (h : ∀ x y z : Int, (0 ≤ x ∧ x < p) → (0 ≤ y ∧ y < p) → (0 ≤ z ∧ z < p) → evK p x y z L L.length = evK p x y z M M.length) : L = M := by
  obtain ⟨q, rfl, hq⟩ := isP_nat hp
  refine ind_inj sL sM eL eM fun a b c => ?_
  by_cases ho : (0 ≤ a ∧ a < (q : Int)) ∧ (0 ≤ b ∧ b < (q : Int)) ∧ (0 ≤ c ∧ c < (q : Int))
  · obtain ⟨⟨a0, a1⟩, ⟨b0, b1⟩, ⟨c0, c1⟩⟩ := ho
    obtain ⟨e, rfl⟩ := Int.eq_ofNat_of_zero_le a0
    obtain ⟨f, rfl⟩ := Int.eq_ofNat_of_zero_le b0
    obtain ⟨g, rfl⟩ := Int.eq_ofNat_of_zero_le c0
    refine (cof_wS hq (by omega) (by omega) (by omega) hL).symm.trans ((cof_cg fun x y z hx hy hz => ?_).trans (cof_wS hq (by omega) (by omega) (by omega) hM))
    refine (evK_all q x y z L).symm.trans ((Cg.of_eq (h x y z (by omega) (by omega) (by omega))).trans (evK_all q x y z M))
  · rw [ind_out hL ho, ind_out hM ho]
    exact Cg.refl _ _
end Go.Proofs.Ytajabchbdhjdiaa
namespace Go.Proofs.Ytajabchbdhjdiaa
open Go.RowKit
theorem addOk_is {p : Int} {L M : List Trm} (h : addOk p L M = true) : isP p = true ∧ validB p L = true ∧ validB p M = true ∧ validB p (addAll p M L) = true ∧ sumV p L M = addAll p M L := by
  have e : sumV p L M = addAll p M L := by unfold sumV; rw [if_pos h]
  unfold addOk at h
  simp only [Bool.and_eq_true] at h
  exact ⟨h.1.1.1, h.1.1.2, h.1.2.2, h.2, e⟩
theorem addOk_of {p : Int} {L M : List Trm} (hp : isP p = true) (hL : validB p L = true) (hM : validB p M = true) (hS : validB p (addAll p M L) = true) : addOk p L M = true ∧ sumV p L M = addAll p M L := by
  have e : addOk p L M = true := by unfold addOk; rw [hp, hL, hM, hS]; rfl
  exact ⟨e, by unfold sumV; rw [if_pos e]⟩
/-- all that the law of sums asks -/
structure AddF (p : Int) (L M S N : List Trm) : Prop where
  hp : isP p = true
  tu : sumV p M L = S
  tb : addOk p M L = true
  mi : sclV p (p - 1) M = N
  mb : ((isP p && validB p M) && isE p (p - 1)) = true
  ba : sumV p S N = L
  bb : addOk p S N = true
  vL : validB p L = true
  vM : validB p M = true
  vS : validB p S = true
  ev : ∀ x y z : Int, isE3 p x y z = true → evV p x y z S = addV p (evV p x y z L) (evV p x y z M)
  dg : degV p S ≤ max (degV p L) (degV p M)
theorem addF {p : Int} {L M : List Trm} (h : addOk p L M = true) : ∃ N, AddF p L M (sumV p L M) N := by
  obtain ⟨hp, hL, hM, hS, hs⟩ := addOk_is h
  have hb := isP_bd hp
  have hE : isE p (p - 1) = true := isE_iff.2 (by omega)
  have hN : validB p (sclL p (p - 1) M) = true := scl_valid hp hE hM
  have hc := add_comm (p := p) hp hL hM
  have h1 := addOk_of (p := p) (L := M) (M := L) hp hM hL (by rw [hc]; exact hS)
  have hk := add_back (p := p) hp hL hM
  have h2 := addOk_of (p := p) (L := addAll p M L) (M := sclL p (p - 1) M) hp hS hN (by rw [hk]; exact hL)
  refine ⟨sclL p (p - 1) M, ?_⟩
  rw [hs]
  refine ⟨hp, by rw [h1.2, hc], h1.1, by unfold sclV; rw [hp, hM, hE]; rfl, by rw [hp, hM, hE]; rfl, by rw [h2.2, hk], h2.1, hL, hM, hS, fun x y z he => ?_, ?_⟩
  · have b1 := evK_bd hp x y z L L.length
    have b2 := evK_bd hp x y z M M.length
    unfold evV addV
    rw [hp, hL, hM, hS, he]
    simp only [Bool.and_self, if_true]
    rw [if_pos (isE2_iff.2 ⟨hp, b1, b2⟩), add_ev hp]
  · unfold degV
    rw [hp, hL, hM, hS]
    simp only [Bool.and_self, if_true]
    rw [topK_deg, topK_deg, topK_deg]
    exact add_top degT degT_eq
end Go.Proofs.Ytajabchbdhjdiaa
namespace Go.Proofs.Ytajabchbdhjdiaa
set_option linter.unusedVariables false
open Go.RowKit
set_option maxRecDepth 100000 in
set_option maxHeartbeats 4000000 in
theorem acN_some (g1 o1 c1 g2 o2 c2 : Nat) (A M : List Trm) (w : World) (hA : A.length ≤ 1048576) (hM : M.length ≤ 1048576) (hg1 : g1 < w.heap.size) (hg2 : g2 < w.heap.size)
    (h1 : ∀ j : Nat, j < A.length → TAt w g1 (o1 + j * 4) (A.getD j default)) (h2 : ∀ j : Nat, j < M.length → TAt w g2 (o2 + j * 4) (M.getD j default)) :
    Calls Try.prog 41 #[.slice (some ⟨g1, o1, none⟩) A.length c1, .slice (some ⟨g2, o2, none⟩) M.length c2] w fun e w' => e = .returned (.bool (decide (A = M))) ∧ Below w.heap.size w w' := by
  have H1 := Lib.hid h1
  have H2 := Lib.hid h2
  obtain ⟨m, hm⟩ : ∃ m : Nat, m = min A.length M.length := ⟨_, rfl⟩
  have hmi : (if (A.length : Int) ≤ (M.length : Int) then (A.length : Int) else (M.length : Int)) = (m : Int) := by split <;> omega
  have hmi2 : min (A.length : Int) (M.length : Int) = (m : Int) := by omega
  have hm1 : m ≤ A.length := by omega
  have hm2 : m ≤ M.length := by omega
  have HM := Lib.hid hm
  clear h1 h2 hm
  go_enter Try.func41, Try.ntmps41
  go_wp2_with fail
  go_loopw [11] (fun i wr => ∃ k : Nat, k ≤ m ∧ i = .int .i64 k ∧ (∀ j, j < k → A.getD j default = M.getD j default) ∧ Below w.heap.size w wr) (fun i _ => m - (intOf i).toNat)
  case atStart => exact ⟨0, by omega, rfl, fun j hj => by omega, Below.refl _ _⟩
  case round =>
    obtain ⟨k, hk, rfl, hE, hb⟩ := hrel
    by_cases hlt : k < m
    · have hltp : (k : Int) < (m : Int) := by omega
      have hlt1 : (k : Int) < (A.length : Int) := by omega
      have hlt2 : (k : Int) < (M.length : Int) := by omega
      have hk0 : (0 : Int) ≤ (k : Int) := by omega
      obtain ⟨a0, a1, a2, a3⟩ := (H1.out k (by omega)).below hb hg1
      obtain ⟨b0, b1, b2, b3⟩ := (H2.out k (by omega)).below hb hg2
      have hq := fun w => runEqT (A.getD k default) (M.getD k default) w
      obtain ⟨x, hx⟩ : ∃ x, x = A.getD k default := ⟨_, rfl⟩
      obtain ⟨y, hy⟩ : ∃ y, y = M.getD k default := ⟨_, rfl⟩
      rw [← hx] at a0 a1 a2 a3 hq
      rw [← hy] at b0 b1 b2 b3 hq
      unfold Trm.v at hq
      have HX := Lib.hid (And.intro hx hy)
      have HE := Lib.hid hE
      have HB := Lib.hid hb
      clear hx hy hE hb
      by_cases hxy : x = y
      · rw [decide_eq_true hxy] at hq
        have HXY := Lib.hid hxy
        clear hxy
        go_wp2_with fail
        go_quiet (fail)
        go_wp2_with fail
        go_roundw
        case rel => exact ⟨k + 1, by omega, by go_num, fun j hj => by
          by_cases e : j < k
          · exact HE.out j e
          · have e2 : j = k := by omega
            subst e2
            rw [← HX.out.1, ← HX.out.2]
            exact HXY.out, below_drewN HB.out _⟩
        case measure => simp [intOf]; omega
      · rw [decide_eq_false hxy] at hq
        have HN := Lib.hid (show decide (A = M) = false from decide_eq_false (fun e => hxy (by rw [HX.out.1, HX.out.2, e])))
        clear hxy
        go_wp2_with fail
        go_quiet (fail)
        go_wp2_with fail
        go_ret
        exact ⟨ret_bool HN.out.symm, below_drewN HB.out _⟩
    · have hkl : k = m := by omega
      subst hkl
      have hnl : ¬ (k : Int) < (k : Int) := by omega
      by_cases hl : A.length = M.length
      · have HN := Lib.hid (show decide (A = M) = true from decide_eq_true (all_eq hl (fun j hj => hE j (by have := HM.out; omega))))
        have hbe : ((A.length : Int) == (M.length : Int)) = true := by simp [hl]
        have HB := Lib.hid hb
        clear hb hE hl
        go_wp2_with fail
        go_ret
        exact ⟨ret_bool HN.out.symm, HB.out⟩
      · have HN := Lib.hid (show decide (A = M) = false from decide_eq_false (fun e => hl (by rw [e])))
        have hbe : ((A.length : Int) == (M.length : Int)) = false := by
          have : (A.length : Int) ≠ (M.length : Int) := by omega
          simpa using this
        have HB := Lib.hid hb
        clear hb hE hl
        go_wp2_with fail
        go_ret
        exact ⟨ret_bool HN.out.symm, HB.out⟩
theorem acN_nil (a1 a2 : Option Addr) (n1 n2 c1 c2 : Nat) (h1 : n1 ≤ 1048576) (h2 : n2 ≤ 1048576) (h : n1 = 0 ∨ n2 = 0) (w : World) :
    Calls Try.prog 41 #[.slice a1 n1 c1, .slice a2 n2 c2] w fun e w' => e = .returned (.bool ((n1 : Int) == (n2 : Int))) ∧ Below w.heap.size w w' := by
  have hmi : (if (n1 : Int) ≤ (n2 : Int) then (n1 : Int) else (n2 : Int)) = 0 := by split <;> omega
  have hmi2 : min (n1 : Int) (n2 : Int) = 0 := by omega
  obtain ⟨r, hr⟩ : ∃ r, r = ((n1 : Int) == (n2 : Int)) := ⟨_, rfl⟩
  have hr2 : ((n1 : Int) == (n2 : Int)) = r := hr.symm
  rw [hr2]
  clear hr
  go_enter Try.func41, Try.ntmps41
  go_wp2_with fail
  go_loopw [11] (fun i wr => i = .int .i64 0 ∧ Below w.heap.size w wr) (fun _ _ => 0)
  case atStart => exact ⟨rfl, Below.refl _ _⟩
  case round =>
    obtain ⟨rfl, hb⟩ := hrel
    go_wp2_with fail
    go_ret
    exact ⟨rfl, hb⟩
theorem acN (v1 v2 : Value) (A M : List Trm) (w : World) (h1 : Trms w v1 A) (h2 : Trms w v2 M) :
    Calls Try.prog 41 #[v1, v2] w fun e w' => e = .returned (.bool (decide (A = M))) ∧ Below w.heap.size w w' := by
  obtain ⟨l1, a1, c1, rfl, h1⟩ := h1
  obtain ⟨l2, a2, c2, rfl, h2⟩ := h2
  have nilc : (A = [] ∨ M = []) → Calls Try.prog 41 #[.slice a1 A.length c1, .slice a2 M.length c2] w fun e w' => e = .returned (.bool (decide (A = M))) ∧ Below w.heap.size w w' := by
    intro h
    have e : decide (A = M) = ((A.length : Int) == (M.length : Int)) := by
      rcases h with rfl | rfl
      · cases M <;> simp
        omega
      · cases A <;> simp
        omega
    rw [e]
    exact acN_nil a1 a2 _ _ c1 c2 (by omega) (by omega) (by rcases h with rfl | rfl <;> simp) w
  rcases h1 with rfl | ⟨g1, o1, rfl, hg1, hc1⟩
  · exact nilc (.inl rfl)
  · rcases h2 with rfl | ⟨g2, o2, rfl, hg2, hc2⟩
    · exact nilc (.inr rfl)
    · exact acN_some g1 o1 c1 g2 o2 c2 A M w l1 l2 hg1 hg2 hc1 hc2
end Go.Proofs.Ytajabchbdhjdiaa
