/-
  PolyOfFormula, of the model and of the program. Conditions: none.
  PolyOfFormula, of the model and of the program, and the walk of its exact law. Conditions: none.
  The formula of a circuit against the circuit: it is read as the tree of its last gate; polynomials; gates of the circuit with sharing. No world.
-/
import Derived.Test.YtegkcfinklcglaaBq3
import Derived.Test.YtegkcfinklcglaaBq4
import Derived.Test.YtegkcfinklcglaaBo10
import Derived.Test.YtegkcfinklcglaaBo36
import Derived.Test.YtegkcfinklcglaaBo42
import Derived.Test.YtegkcfinklcglaaBq2
import Derived.Test.YtegkcfinklcglaaBo45
namespace Go.Proofs.Ytegkcfinklcglaa
open Go.RowKit
/-- the polynomial of a formula, and whether there is one -/
def pfF (p : Int) : Fm → List Trm × Bool
  | .leaf k a => (if k = 0 then [onT a] else cnL a, true)
  | .pair k f g => if (pfF p f).2 = true ∧ (pfF p g).2 = true then (if k = 2 then sumV p (pfF p f).1 (pfF p g).1 else mulL p (pfF p f).1 (pfF p g).1, if k = 2 then addOk p (pfF p f).1 (pfF p g).1 else mulOk p (pfF p f).1 (pfF p g).1) else ([], false)
theorem pfF_pair {p k : Int} {f g : Fm} (hf : (pfF p f).2 = true) (hg : (pfF p g).2 = true) : pfF p (.pair k f g) = (if k = 2 then sumV p (pfF p f).1 (pfF p g).1 else mulL p (pfF p f).1 (pfF p g).1, if k = 2 then addOk p (pfF p f).1 (pfF p g).1 else mulOk p (pfF p f).1 (pfF p g).1) := by
  show (if _ then _ else _) = _
  rw [if_pos ⟨hf, hg⟩]
theorem pfF_none {p k : Int} {f g : Fm} (h : (pfF p f).2 = false ∨ (pfF p g).2 = false) : pfF p (.pair k f g) = ([], false) := by
  show (if _ then _ else _) = _
  rw [if_neg]
  rintro ⟨h1, h2⟩
  rcases h with h | h
  · rw [h] at h1; cases h1
  · rw [h] at h2; cases h2
theorem pc_one {p k a : Int} (hp : isP p = true) (h : (k = 0 ∧ (a = 0 ∨ a = 1 ∨ a = 2)) ∨ (k = 1 ∧ 0 ≤ a ∧ a < p)) : pcOk p [⟨k, a, 0⟩] = true ∧ pcV p [⟨k, a, 0⟩] = if k = 0 then [onT a] else cnL a := by
  have hv : circB p [⟨k, a, 0⟩] = true := by
    refine circB_iff.2 ⟨hp, by simp, by simp, fun j hj => ?_⟩
    have : j = 0 := by simpa using hj
    subst this
    show gOK (p - 1) ⟨k, a, 0⟩ 0 = true
    rcases h with ⟨rfl, h⟩ | ⟨rfl, h0, h1⟩
    · rcases h with rfl | rfl | rfl <;> rfl
    · simp [gOK, inB]; omega
  have hg : gAt [⟨k, a, 0⟩] 0 = ⟨k, a, 0⟩ := rfl
  have ho : pcO p [⟨k, a, 0⟩] 0 = true ∧ pcP p [⟨k, a, 0⟩] 0 = if k = 0 then [onT a] else cnL a := by
    rcases h with ⟨rfl, _⟩ | ⟨rfl, _⟩
    · exact ⟨(pcP_in (p := p) (L := [⟨0, a, 0⟩]) (j := 0) rfl).2, (pcP_in (p := p) (L := [⟨0, a, 0⟩]) (j := 0) rfl).1⟩
    · exact ⟨(pcP_cn (p := p) (L := [⟨1, a, 0⟩]) (j := 0) rfl).2, (pcP_cn (p := p) (L := [⟨1, a, 0⟩]) (j := 0) rfl).1⟩
  have hk : pcOk p [⟨k, a, 0⟩] = true := pc_good hv (fun j hj _ => by
    have : j = 0 := by simpa using hj
    subst this
    exact ho.1)
  exact ⟨hk, by unfold pcV; rw [if_pos hk]; exact ho.2⟩
end Go.Proofs.Ytegkcfinklcglaa
namespace Go.Proofs.Ytegkcfinklcglaa
open Go.RowKit
/-- what PolyOfFormula returns -/
def pffV (p : Int) (s : ByteArray) : List Trm := match foF p s with
  | none => []
  | some f => (pfF p f).1
def pffB (p : Int) (s : ByteArray) : Bool := match foF p s with
  | none => false
  | some f => (pfF p f).2
theorem pfF_len (p : Int) : ∀ f : Fm, (pfF p f).1.length ≤ 60
  | .leaf k a => by
    show (if k = 0 then [onT a] else cnL a).length ≤ 60
    unfold cnL
    repeat' split
    all_goals simp
  | .pair k f g => by
    show (if _ then _ else _ : List Trm × Bool).1.length ≤ 60
    split
    · show (if k = 2 then _ else _ : List Trm).length ≤ 60
      split
      · exact sumV_len
      · exact mulL_len
    · simp
set_option maxRecDepth 100000 in
set_option maxHeartbeats 4000000 in
theorem iExpNil (p : Int) (w : World) : Calls Try.prog 147 #[.int .i64 p, .nilIface] w (GivesPB [] false w) := by
  go_enter Try.func147, Try.ntmps147
  go_wp2_with fail
  refine bodyPost_ret (results_tmp2 rfl _ _ _) rfl ?_
  exact ⟨_, rfl, (Row.nil w w.heap.size).own (by simp), Below.refl _ _⟩
set_option maxRecDepth 100000 in
set_option maxHeartbeats 8000000 in
theorem iExp (p : Int) (hp : isP p = true) : ∀ (f : Fm) (w : World), okF p f →
    Calls Try.prog 147 #[.int .i64 p, fmV f] w (GivesPB (pfF p f).1 (pfF p f).2 w)
  | .leaf k a, w, hok => by
    show Calls Try.prog 147 #[.int .i64 p, .iface 186 (.agg #[.int .i64 k, .int .i64 a, .int .i64 0])] w (GivesPB (if k = 0 then [onT a] else cnL a) true w)
    have HG := Lib.hid (fun w => show Calls Try.prog 127 #[.agg #[.int .i64 k, .int .i64 a, .int .i64 0], .int .i64 p, .slice none 0 0] w (GivesPB (if k = 0 then [onT a] else cnL a) true w) by
      rcases hok with ⟨rfl, ha⟩ | ⟨rfl, ha⟩
      · rw [if_pos rfl]
        exact iGPoly0 p a 0 ha none 0 0 w
      · rw [if_neg (by decide)]
        exact iGPoly1 p a 0 hp ha none 0 0 w)
    obtain ⟨R, hR⟩ : ∃ R, R = (if k = 0 then [onT a] else cnL a) := ⟨_, rfl⟩
    rw [← hR] at HG ⊢
    clear hok hR
    go_enter Try.func147, Try.ntmps147
    go_wp2_with fail
    refine (HG.out _).mono ?_
    rintro e w2 ⟨v2, rfl, ho2, hb2⟩
    have HB2 := Lib.hid (show OwnTrms w2 w.heap.size v2 R ∧ Below w.heap.size w w2 from ⟨ownT_low ho2 (by simp), (Below.alloc (Below.refl _ _) (Nat.le_refl _) _).trans (hb2.mono (by simp))⟩)
    obtain ⟨_, a2, k2, rfl, _⟩ := ho2
    clear hb2
    go_wp2_with fail
    refine bodyPost_ret (results_tmp2 rfl _ _ _) rfl ?_
    exact ⟨_, rfl, HB2.out.1, HB2.out.2⟩
  | .pair k f g, w, hok => by
    obtain ⟨hk, hof, hog⟩ := hok
    have IF := Lib.hid (fun w => iExp p hp f w hof)
    have IG := Lib.hid (fun w => iExp p hp g w hog)
    have hpr := @pfF_pair p k f g
    have hpn := @pfF_none p k f g
    show Calls Try.prog 147 #[.int .i64 p, .iface 188 (.agg #[.int .i64 k, fmV f, fmV g])] w (GivesPB (pfF p (.pair k f g)).1 (pfF p (.pair k f g)).2 w)
    obtain ⟨Z, hZ⟩ : ∃ Z, Z = pfF p (.pair k f g) := ⟨_, rfl⟩
    rw [← hZ] at hpr hpn ⊢
    obtain ⟨⟨A, a⟩, hA⟩ : ∃ A, A = pfF p f := ⟨_, rfl⟩
    obtain ⟨⟨B, b⟩, hB⟩ : ∃ A, A = pfF p g := ⟨_, rfl⟩
    rw [← hA] at IF hpr hpn
    rw [← hB] at IG hpr hpn
    simp only at IF IG hpr hpn
    obtain ⟨ft, fv, hfe⟩ := fmV_is f
    obtain ⟨gt, gv, hge⟩ := fmV_is g
    have HO := Lib.hid (And.intro (fmV_one' f hfe) (fmV_one' g hge))
    rw [hfe] at IF ⊢
    rw [hge] at IG ⊢
    have hAl : A.length ≤ 60 := by have := pfF_len p f; rw [← hA] at this; exact this
    have hBl : B.length ≤ 60 := by have := pfF_len p g; rw [← hB] at this; exact this
    clear hZ hA hB hfe hge hof hog
    obtain ⟨W, hW⟩ : ∃ W, W = w.alloc (Obj.cells #[.int .i64 k, .iface ft fv, .iface gt gv] 188) := ⟨_, rfl⟩
    have HC := Lib.hid (fun w' (hb : Below W.heap.size W w') => show w'.cell? ⟨w.heap.size, 0, none⟩ = some (.int .i64 k) ∧ w'.cell? ⟨w.heap.size, 1, none⟩ = some (.iface ft fv) ∧ w'.cell? ⟨w.heap.size, 2, none⟩ = some (.iface gt gv) ∧ Below w.heap.size w w' by
      have hs : w.heap.size < W.heap.size := by rw [hW]; simp
      refine ⟨?_, ?_, ?_, (show Below w.heap.size w W by rw [hW]; exact Below.alloc (Below.refl _ _) (Nat.le_refl _) _).trans (hb.mono (by omega))⟩
      · rw [hb.cell (p := ⟨w.heap.size, 0, none⟩) hs, hW]; simp [go_sem]
      · rw [hb.cell (p := ⟨w.heap.size, 1, none⟩) hs, hW]; simp [go_sem]
      · rw [hb.cell (p := ⟨w.heap.size, 2, none⟩) hs, hW]; simp [go_sem])
    have HW := Lib.hid hW
    obtain ⟨c0, c1, c2, -⟩ := HC.out W (Below.refl _ _)
    clear hW
    cases hab : (a && b)
    · have hz : Z = ([], false) := hpn (by cases a <;> cases b <;> simp at hab ⊢)
      have HAB := Lib.hid hab
      subst hz
      clear hpr hpn hab
      go_enter Try.func147, Try.ntmps147
      go_wp2_with fail
      rw [← HW.out]
      refine (IF.out _).mono ?_
      rintro e w1 ⟨v1, rfl, ho1, hb1⟩
      have HB1 := Lib.hid hb1
      obtain ⟨_, a1, k1, rfl, _⟩ := ho1
      clear hb1 c0 c1 c2
      obtain ⟨c0, c1, c2, -⟩ := HC.out w1 HB1.out
      go_wp2_with fail
      refine (IG.out _).mono ?_
      rintro e w2 ⟨v2, rfl, ho2, hb2⟩
      have HB2 := Lib.hid (HB1.out.trans (hb2.mono HB1.out.size))
      obtain ⟨_, a2, k2, rfl, _⟩ := ho2
      clear hb2 c0 c1 c2
      obtain ⟨c0, c1, c2, hlow⟩ := HC.out w2 HB2.out
      have HQ := Lib.hid hlow
      clear hlow
      cases a <;> cases b <;> first | (exact absurd HAB.out (by decide)) | skip
      all_goals
        clear HAB
        go_wp2_with fail
        refine bodyPost_ret (results_tmp2 rfl _ _ _) rfl ?_
        exact ⟨_, rfl, (Row.nil w2 w.heap.size).own (by simp), HQ.out⟩
    · have ha : a = true := by cases a <;> simp_all
      have hb : b = true := by cases b <;> simp_all
      subst ha hb
      have hz := hpr rfl rfl
      clear hpr hpn hab
      have HG := Lib.hid (fun (g0 cap : Nat) u v w' (hg : g0 < w'.heap.size) (h0 : w'.cell? ⟨g0, 0, none⟩ = some u) (h1 : w'.cell? ⟨g0, 1, none⟩ = some v) (hu : Trms w' u A) (hv : Trms w' v B) =>
        show Calls Try.prog 127 #[.agg #[.int .i64 k, .int .i64 0, .int .i64 1], .int .i64 p, .slice (some ⟨g0, 0, none⟩) 2 cap] w' (GivesPB Z.1 Z.2 w') by
          rw [hz]
          exact iGPoly2 p k hk 0 1 2 (by omega) (by omega) (by omega) g0 cap u v A B w' hg h0 h1 hu hv)
      obtain ⟨R, r⟩ := Z
      simp only at HG ⊢
      clear hz hk
      go_enter Try.func147, Try.ntmps147
      go_wp2_with fail
      rw [← HW.out]
      refine (IF.out _).mono ?_
      rintro e w1 ⟨v1, rfl, ho1, hb1⟩
      have HB1 := Lib.hid (And.intro hb1 ho1.trms)
      obtain ⟨_, a1, k1, rfl, _⟩ := ho1
      clear hb1 c0 c1 c2
      obtain ⟨c0, c1, c2, -⟩ := HC.out w1 HB1.out.1
      go_wp2_with fail
      refine (IG.out _).mono ?_
      rintro e w2 ⟨v2, rfl, ho2, hb2⟩
      have HB2 := Lib.hid (And.intro (HB1.out.1.trans (hb2.mono HB1.out.1.size)) (And.intro (HB1.out.2.below hb2) ho2.trms))
      obtain ⟨_, a2, k2, rfl, _⟩ := ho2
      clear hb2 c0 c1 c2
      obtain ⟨c0, c1, c2, hlow⟩ := HC.out w2 HB2.out.1
      have HQ := Lib.hid hlow
      clear hlow
      go_wp2_with fail
      refine (iPairGate k _ _ HO.out.1 HO.out.2 _).mono ?_
      rintro e w3 ⟨rfl, hb3⟩
      have HB3 := Lib.hid (And.intro (HQ.out.trans (hb3.mono HQ.out.size)) (And.intro (HB2.out.2.1.below hb3) (HB2.out.2.2.below hb3)))
      clear hb3 c0 c1 c2
      go_wp2_with fail
      have hbn : Below w3.heap.size w3 (w3.alloc (Obj.cells #[.slice a1 A.length k1, .slice a2 B.length k2] 26)) := Below.alloc (Below.refl _ _) (Nat.le_refl _) _
      refine (HG.out w3.heap.size 2 _ _ _ (by simp) (by simp [go_sem]; done) (by simp [go_sem]; done) (HB3.out.2.1.below hbn) (HB3.out.2.2.below hbn)).mono ?_
      rintro e w4 ⟨v4, rfl, ho4, hb4⟩
      have HB4 := Lib.hid (show OwnTrms w4 w.heap.size v4 R ∧ Below w.heap.size w w4 from ⟨ownT_low ho4 (by have := HB3.out.1.size; simp; omega), HB3.out.1.trans ((hbn.mono HB3.out.1.size).trans (hb4.mono (by have := HB3.out.1.size; simp; omega)))⟩)
      obtain ⟨_, a4, k4, rfl, _⟩ := ho4
      clear hb4 hbn
      go_wp2_with fail
      refine bodyPost_ret (results_tmp2 rfl _ _ _) rfl ?_
      exact ⟨_, rfl, HB4.out.1, HB4.out.2⟩
set_option maxRecDepth 100000 in
set_option maxHeartbeats 4000000 in
theorem iPolyOfFormula (p : Int) (s : ByteArray) (w : World) :
    Calls Try.prog 69 #[.int .i64 p, .string s] w (GivesPB (pffV p s) (pffB p s) w) := by
  have HF := Lib.hid (iFormulaOf p s)
  have HV := Lib.hid (fun w => show Calls Try.prog 147 #[.int .i64 p, optV (foF p s)] w (GivesPB (pffV p s) (pffB p s) w) by
    unfold pffV pffB
    cases h : foF p s with
    | none => exact iExpNil p w
    | some f => exact iExp p (foF_some h).1 f w (formF_ok (foF_some h).2.2))
  obtain ⟨u, hu⟩ : ∃ u, u = optV (foF p s) := ⟨_, rfl⟩
  obtain ⟨R, hR⟩ : ∃ R, R = pffV p s := ⟨_, rfl⟩
  obtain ⟨r, hr⟩ : ∃ r, r = pffB p s := ⟨_, rfl⟩
  rw [← hu] at HF HV
  rw [← hR, ← hr] at HV ⊢
  clear hu hR hr
  go_enter Try.func69, Try.ntmps69
  go_wp2_with fail
  refine (HF.out _).mono ?_
  rintro e w1 ⟨rfl, hb1⟩
  have HB := Lib.hid hb1
  clear hb1
  go_wp2_with fail
  refine (HV.out _).mono ?_
  rintro e w2 ⟨v2, rfl, ho2, hb2⟩
  have HB2 := Lib.hid (And.intro (ownT_low ho2 HB.out.size) (HB.out.trans (hb2.mono HB.out.size)))
  obtain ⟨_, a2, k2, rfl, _⟩ := ho2
  clear hb2
  go_wp2_with fail
  refine bodyPost_ret (results_tmp2 rfl _ _ _) rfl ?_
  exact ⟨_, rfl, HB2.out.1, HB2.out.2⟩
end Go.Proofs.Ytegkcfinklcglaa
namespace Go.Proofs.Ytegkcfinklcglaa
open Go.RowKit
/-- the trees of the first k gates -/
def trF (L : List Gt) : Nat → Nat → Fm
  | 0, _ => .leaf 0 0
  | k + 1, j => if j = k then (if joinsB (gAt L k) = true then .pair (gAt L k).k (trF L k (gAt L k).a.toNat) (trF L k (gAt L k).b.toNat) else .leaf (gAt L k).k (gAt L k).a) else trF L k j
def tr (L : List Gt) (j : Nat) : Fm := trF L (j + 1) j
theorem trF_st (L : List Gt) (j : Nat) : ∀ k, j < k → trF L k j = tr L j
  | 0, h => by omega
  | k + 1, h => by
    by_cases e : j = k
    · subst e; rfl
    · show (if j = k then _ else trF L k j) = _
      rw [if_neg e]
      exact trF_st L j k (by omega)
theorem tr_join {L : List Gt} {j : Nat} (hg : joinsB (gAt L j) = true) (ha : (gAt L j).a.toNat < j) (hb : (gAt L j).b.toNat < j) : tr L j = .pair (gAt L j).k (tr L (gAt L j).a.toNat) (tr L (gAt L j).b.toNat) := by
  show (if j = j then _ else _) = _
  rw [if_pos rfl, if_pos hg, trF_st L _ j ha, trF_st L _ j hb]
theorem tr_leaf {L : List Gt} {j : Nat} (hg : joinsB (gAt L j) = false) : tr L j = .leaf (gAt L j).k (gAt L j).a := by
  show (if j = j then _ else _) = _
  rw [if_pos rfl, if_neg (by simp [hg])]
/-! the text is read as the tree -/
theorem ltr_read {p a : Int} (h0 : 0 ≤ a) (h1 : a ≤ 2) (n : Nat) (rest : List UInt8) : parseF p (n + 1) ((ltrS a).data.toList ++ rest) = some (.leaf 0 a, rest) := by
  have : a = 0 ∨ a = 1 ∨ a = 2 := by omega
  rcases this with rfl | rfl | rfl <;> rfl
theorem dgt_read {p a : Int} (h0 : 0 ≤ a) (h1 : a ≤ 12) (hp : a < p) (n : Nat) (rest : List UInt8) : parseF p (n + 1) ((dgtS a).data.toList ++ rest) = some (.leaf 1 a, rest) := by
  have key : ∀ (c : UInt8) (a : Int), (dgtS a).data.toList = [c] → signB c = false → ¬ 0 ≤ Lib.indexByte letB c → Lib.indexByte digB c = a → 0 ≤ a → a < p → parseF p (n + 1) ((dgtS a).data.toList ++ rest) = some (.leaf 1 a, rest) := by
    intro c a e1 e2 e3 e4 e5 e6
    rw [e1]
    show parseF p (n + 1) (c :: rest) = _
    unfold parseF
    rw [if_neg (by rw [e2]; decide)]
    unfold leafB
    rw [if_neg e3, e4, if_pos ⟨e5, e6⟩]
  have : a = 0 ∨ a = 1 ∨ a = 2 ∨ a = 3 ∨ a = 4 ∨ a = 5 ∨ a = 6 ∨ a = 7 ∨ a = 8 ∨ a = 9 ∨ a = 10 ∨ a = 11 ∨ a = 12 := by omega
  rcases this with rfl | rfl | rfl | rfl | rfl | rfl | rfl | rfl | rfl | rfl | rfl | rfl | rfl
  · exact key 48 _ rfl rfl (by decide) rfl (by decide) hp
  · exact key 49 _ rfl rfl (by decide) rfl (by decide) hp
  · exact key 50 _ rfl rfl (by decide) rfl (by decide) hp
  · exact key 51 _ rfl rfl (by decide) rfl (by decide) hp
  · exact key 52 _ rfl rfl (by decide) rfl (by decide) hp
  · exact key 53 _ rfl rfl (by decide) rfl (by decide) hp
  · exact key 54 _ rfl rfl (by decide) rfl (by decide) hp
  · exact key 55 _ rfl rfl (by decide) rfl (by decide) hp
  · exact key 56 _ rfl rfl (by decide) rfl (by decide) hp
  · exact key 57 _ rfl rfl (by decide) rfl (by decide) hp
  · exact key 65 _ rfl rfl (by decide) rfl (by decide) hp
  · exact key 66 _ rfl rfl (by decide) rfl (by decide) hp
  · exact key 67 _ rfl rfl (by decide) rfl (by decide) hp
theorem tx_read {p : Int} {L : List Gt} (hv : circB p L = true) : ∀ d j, j < d → j < L.length → ∀ (n : Nat) (rest : List UInt8), (tx L j).data.toList.length ≤ n → parseF p n ((tx L j).data.toList ++ rest) = some (tr L j, rest)
  | 0, j, h, _, _, _, _ => by omega
  | d + 1, j, h, hj, n, rest, hn => by
    have hc := gOK_cases ((circB_iff.1 hv).2.2.2 j hj)
    cases hg : joinsB (gAt L j)
    · rw [tr_leaf hg]
      rcases tx_leaf hv hj hg with ⟨hk, e, h0, h1⟩ | ⟨hk, e, h0, h1⟩
      · have hs := ltrS_size h0 h1
        have hs2 : (ltrS (gAt L j).a).data.toList.length = 1 := by rw [Array.length_toList]; exact hs
        rw [e] at hn ⊢
        rw [hk]
        obtain ⟨m, rfl⟩ : ∃ m, n = m + 1 := ⟨n - 1, by omega⟩
        exact ltr_read h0 h1 m rest
      · have hs := dgtS_size h0 h1
        have hs2 : (dgtS (gAt L j).a).data.toList.length = 1 := by rw [Array.length_toList]; exact hs
        rw [e] at hn ⊢
        rw [hk]
        obtain ⟨m, rfl⟩ : ∃ m, n = m + 1 := ⟨n - 1, by omega⟩
        exact dgt_read h0 h1 (by omega) m rest
    · obtain ⟨e, ha, hb⟩ := tx_join hv hj hg
      have hk : (gAt L j).k = 2 ∨ (gAt L j).k = 3 := by simpa [joinsB] using hg
      obtain ⟨c, hc1, hc2, hc3⟩ : ∃ c : UInt8, (sgS (gAt L j).k).data.toList = [c] ∧ signB c = true ∧ kindB c = (gAt L j).k := by
        rcases hk with h | h
        · exact ⟨43, by rw [h]; rfl, rfl, by rw [h]; rfl⟩
        · exact ⟨42, by rw [h]; rfl, rfl, by rw [h]; rfl⟩
      have ed : (tx L j).data.toList = c :: ((tx L (gAt L j).a.toNat).data.toList ++ (tx L (gAt L j).b.toNat).data.toList) := by
        rw [e]
        simp only [ByteArray.data_append, Array.toList_append, hc1]
        rfl
      rw [ed] at hn ⊢
      simp only [List.length_cons, List.length_append] at hn
      obtain ⟨m, rfl⟩ : ∃ m, n = m + 1 := ⟨n - 1, by omega⟩
      have ra := tx_read hv d (gAt L j).a.toNat (by omega) (by omega) m ((tx L (gAt L j).b.toNat).data.toList ++ rest) (by omega)
      have rb := tx_read hv d (gAt L j).b.toNat (by omega) (by omega) m rest (by omega)
      rw [tr_join hg ha hb]
      show parseF p (m + 1) (c :: (((tx L (gAt L j).a.toNat).data.toList ++ (tx L (gAt L j).b.toNat).data.toList) ++ rest)) = _
      unfold parseF
      rw [if_pos hc2, List.append_assoc, ra]
      simp only
      rw [rb, hc3]
theorem fo_is {p : Int} {L : List Gt} (hv : circB p L = true) (hz : szAt L (L.length - 1) ≤ 60) : foF p (tx L (L.length - 1)) = some (tr L (L.length - 1)) ∧ ((tx L (L.length - 1)).size : Int) = szAt L (L.length - 1) := by
  have hl := (circB_iff.1 hv).2.1
  have hs := tx_size hv (L.length - 1) (by omega) (by omega)
  refine ⟨?_, hs⟩
  unfold foF
  rw [if_pos ⟨(circB_iff.1 hv).1, by omega⟩]
  unfold formF
  have := tx_read hv L.length (L.length - 1) (by omega) (by omega) _ [] (Nat.le_refl _)
  rw [List.append_nil] at this
  rw [this]
/-! polynomials -/
theorem pf_is {p : Int} {L : List Gt} (hv : circB p L = true) : ∀ d j, j < d → j < L.length → (pfF p (tr L j)).2 = true → (pfF p (tr L j)).1 = pcP p L j ∧ pcO p L j = true
  | 0, j, h, _, _ => by omega
  | d + 1, j, h, hj, ho => by
    have hc := gOK_cases ((circB_iff.1 hv).2.2.2 j hj)
    cases hg : joinsB (gAt L j)
    · rw [tr_leaf hg]
      have hk : ¬ ((gAt L j).k = 2 ∨ (gAt L j).k = 3) := fun h2 => by
        have : joinsB (gAt L j) = true := by simpa [joinsB] using h2
        rw [hg] at this; cases this
      rcases hc with h | h | h
      · have := pcP_in (p := p) h.1
        refine ⟨?_, this.2⟩
        rw [this.1]
        show (if (gAt L j).k = 0 then _ else _) = _
        rw [if_pos h.1]
      · have := pcP_cn (p := p) h.1
        refine ⟨?_, this.2⟩
        rw [this.1]
        show (if (gAt L j).k = 0 then _ else _) = _
        rw [if_neg (by omega)]
      · exact absurd h.1 hk
    · have hk : (gAt L j).k = 2 ∨ (gAt L j).k = 3 := by simpa [joinsB] using hg
      have ha : (gAt L j).a.toNat < j := by omega
      have hb : (gAt L j).b.toNat < j := by omega
      rw [tr_join hg ha hb] at ho ⊢
      cases h1 : (pfF p (tr L (gAt L j).a.toNat)).2
      · rw [pfF_none (.inl h1)] at ho; cases ho
      cases h2 : (pfF p (tr L (gAt L j).b.toNat)).2
      · rw [pfF_none (.inr h2)] at ho; cases ho
      have ia := pf_is hv d _ (by omega) (by omega) h1
      have ib := pf_is hv d _ (by omega) (by omega) h2
      rw [pfF_pair h1 h2, ia.1, ib.1] at ho ⊢
      rcases hk with h | h
      · have := pcP_sum hv hj h
        rw [this.1, this.2]
        simp only [h, if_true] at ho ⊢
        exact ⟨trivial, ho⟩
      · have := pcP_mul hv hj h
        rw [this.1, this.2]
        simp only [h, show ¬ (3 : Int) = 2 by decide, if_false] at ho ⊢
        exact ⟨trivial, ho⟩
theorem pf_down {p : Int} {L : List Gt} (hv : circB p L = true) (hl : (pfF p (tr L (L.length - 1))).2 = true) : ∀ d j, L.length ≤ j + d → j < L.length → useF L j = true → (pfF p (tr L j)).2 = true
  | 0, j, h1, h2, _ => by omega
  | d + 1, j, h1, h2, hu => by
    rcases use_why hu with h | ⟨i, hi, hui, hgi, hab⟩
    · rwa [show j = L.length - 1 by omega]
    · have hc := gOK_cases ((circB_iff.1 hv).2.2.2 i hi)
      have hk : (gAt L i).k = 2 ∨ (gAt L i).k = 3 := by simpa [joinsB] using hgi
      have ih := pf_down hv hl d i (by omega) hi hui
      rw [tr_join hgi (by omega) (by omega)] at ih
      cases h1 : (pfF p (tr L (gAt L i).a.toNat)).2
      · rw [pfF_none (.inl h1)] at ih; cases ih
      cases h2 : (pfF p (tr L (gAt L i).b.toNat)).2
      · rw [pfF_none (.inr h2)] at ih; cases ih
      rcases hab with h | h
      · rwa [show j = (gAt L i).a.toNat by omega]
      · rwa [show j = (gAt L i).b.toNat by omega]
theorem pf_up {p : Int} {L : List Gt} (hv : circB p L = true) (ho : ∀ j, j < L.length → useF L j = true → pcO p L j = true) : ∀ d j, j < d → j < L.length → useF L j = true → (pfF p (tr L j)).2 = true
  | 0, j, h, _, _ => by omega
  | d + 1, j, h, hj, hu => by
    have hc := gOK_cases ((circB_iff.1 hv).2.2.2 j hj)
    cases hg : joinsB (gAt L j)
    · rw [tr_leaf hg]; rfl
    · have hk : (gAt L j).k = 2 ∨ (gAt L j).k = 3 := by simpa [joinsB] using hg
      have ha : (gAt L j).a.toNat < j := by omega
      have hb : (gAt L j).b.toNat < j := by omega
      obtain ⟨ua, ub⟩ := use_closed hv hj hu hg
      have h1 := pf_up hv ho d _ (show (gAt L j).a.toNat < d by omega) (by omega) ua
      have h2 := pf_up hv ho d _ (show (gAt L j).b.toNat < d by omega) (by omega) ub
      have ia := pf_is hv L.length _ (by omega) (by omega) h1
      have ib := pf_is hv L.length _ (by omega) (by omega) h2
      have hoj := ho j hj hu
      rw [tr_join hg ha hb, pfF_pair h1 h2, ia.1, ib.1]
      rcases hk with h | h
      · have := pcP_sum hv hj h
        rw [this.2] at hoj
        simp only [h, if_true]
        exact hoj
      · have := pcP_mul hv hj h
        rw [this.2] at hoj
        simp only [h, show ¬ (3 : Int) = 2 by decide, if_false]
        exact hoj
theorem pfF_no {p : Int} : ∀ f : Fm, (pfF p f).2 = false → (pfF p f).1 = []
  | .leaf k a, h => by cases h
  | .pair k f g, h => by
    cases h1 : (pfF p f).2
    · rw [pfF_none (.inl h1)]
    cases h2 : (pfF p g).2
    · rw [pfF_none (.inr h2)]
    rw [pfF_pair h1 h2] at h ⊢
    by_cases hk : k = 2
    · simp only [hk, if_true] at h ⊢
      unfold sumV
      rw [if_neg (by rw [h]; decide)]
    · simp only [hk, if_false] at h ⊢
      unfold mulL
      rw [if_neg (by rw [h]; decide)]
theorem pf_whole {p : Int} {L : List Gt} (hv : circB p L = true) : (pfF p (tr L (L.length - 1))).2 = pcOk p L ∧ (pfF p (tr L (L.length - 1))).1 = pcV p L := by
  have hl := (circB_iff.1 hv).2.1
  cases h : (pfF p (tr L (L.length - 1))).2
  · have e : pcOk p L = false := by
      cases ho : pcOk p L
      · rfl
      · have := pf_up hv (fun j hj hu => by
          cases hc : pcO p L j
          · rw [pc_bad hj hu hc] at ho; cases ho
          · rfl) L.length (L.length - 1) (by omega) (by omega) (useF_last hv)
        rw [h] at this
        cases this
    exact ⟨e.symm, by rw [pfF_no _ h]; unfold pcV; rw [if_neg (by rw [e]; decide)]⟩
  · have e : pcOk p L = true := pc_good hv fun j hj hu => (pf_is hv L.length j hj hj (pf_down hv h L.length j (by omega) hj hu)).2
    exact ⟨e.symm, by rw [(pf_is hv L.length _ (by omega) (by omega) h).1]; unfold pcV; rw [if_pos e]⟩
/-! gates with sharing: no more than there were -/
def atF (D : List Gt) : Fm → Nat → Prop
  | .leaf k a, n => n < D.length ∧ gAt D n = ⟨k, a, 0⟩
  | .pair k f g, n => n < D.length ∧ ∃ u v : Nat, atF D f u ∧ atF D g v ∧ gAt D n = ⟨k, (u : Int), (v : Int)⟩
theorem atF_app {D E : List Gt} : ∀ {f : Fm} {n : Nat}, atF D f n → atF (D ++ E) f n
  | .leaf k a, n, h => ⟨by have := h.1; simp; omega, by rw [gAt_app h.1]; exact h.2⟩
  | .pair k f g, n, h => by
    obtain ⟨h1, u, v, h2, h3, h4⟩ := h
    exact ⟨by simp; omega, u, v, atF_app h2, atF_app h3, by rw [gAt_app h1]; exact h4⟩
def NoTwo (D : List Gt) : Prop := ∀ i j, i < D.length → j < D.length → gAt D i = gAt D j → i = j
theorem atF_lt {D : List Gt} : ∀ {f : Fm} {n : Nat}, atF D f n → n < D.length
  | .leaf _ _, _, h => h.1
  | .pair _ _ _, _, h => h.1
theorem atF_one {D : List Gt} (hD : NoTwo D) : ∀ {f : Fm} {n m : Nat}, atF D f n → atF D f m → n = m
  | .leaf k a, n, m, h, h' => hD n m h.1 h'.1 (h.2.trans h'.2.symm)
  | .pair k f g, n, m, h, h' => by
    obtain ⟨h1, u, v, h2, h3, h4⟩ := h
    obtain ⟨h1', u', v', h2', h3', h4'⟩ := h'
    rw [atF_one hD h2 h2', atF_one hD h3 h3'] at h4
    exact hD n m h1 h1' (h4.trans h4'.symm)
theorem ixG_at {x : Gt} : ∀ {C : List Gt} {k : Nat}, ixG x C = some k → gAt C k = x
  | [], k, h => by cases h
  | y :: r, k, h => by
    unfold ixG at h
    split at h
    · rename_i he
      injection h with h
      subst h
      exact (eqGt_iff.1 he).symm
    · cases e : ixG x r with
      | none => rw [e] at h; cases h
      | some n =>
        rw [e] at h
        have h : n + 1 = k := by simpa using h
        subst h
        exact (ixG_at (C := r) e : gAt r n = x)
theorem ixG_no {x : Gt} : ∀ {C : List Gt}, ixG x C = none → ∀ j, j < C.length → gAt C j ≠ x
  | [], _, j, hj => by simp at hj
  | y :: r, h, j, hj => by
    unfold ixG at h
    split at h
    · cases h
    · rename_i he
      have hr : ixG x r = none := by simpa using h
      cases j with
      | zero => exact fun e => he (eqGt_iff.2 (show x = y from e.symm))
      | succ j => exact (ixG_no hr j (by simpa using hj) : gAt r j ≠ x)
/-- what stands there: no gate twice, each the place of a gate's tree -/
structure Shd (L D : List Gt) : Prop where
  nt : NoTwo D
  cv : ∀ n, n < D.length → ∃ j, j < L.length ∧ atF D (tr L j) n
/-- a gate put where there is none like it -/
theorem shr_shd {L D : List Gt} (h : Shd L D) (x : Gt) {j : Nat} (hj : j < L.length) (ha : ∀ E n, n < E.length → gAt E n = x → (∃ F, E = D ++ F) → atF E (tr L j) n) : ∃ F, (shr x D).2 = D ++ F ∧ Shd L (D ++ F) ∧ atF (D ++ F) (tr L j) (shr x D).1 := by
  cases e : ixG x D with
  | some n =>
    rw [shr_hit e]
    refine ⟨[], by simp, by simpa using h, ?_⟩
    rw [List.append_nil]
    exact ha D n (ixG_lt e) (ixG_at e) ⟨[], by simp⟩
  | none =>
    rw [shr_new e]
    have hn := ixG_no e
    have hlen : (D ++ [x]).length = D.length + 1 := by rw [List.length_append]; rfl
    have hlast : gAt (D ++ [x]) D.length = x := gAt_end rfl
    have hat := ha (D ++ [x]) D.length (by omega) hlast ⟨[x], rfl⟩
    refine ⟨[x], rfl, ⟨fun i k hi hk he => ?_, fun n hn' => ?_⟩, hat⟩
    · by_cases h1 : i < D.length
      · by_cases h2 : k < D.length
        · rw [gAt_app h1, gAt_app h2] at he
          exact h.nt i k h1 h2 he
        · rw [gAt_app h1, show k = D.length by omega, hlast] at he
          exact absurd he (hn i h1)
      · by_cases h2 : k < D.length
        · rw [gAt_app h2, show i = D.length by omega, hlast] at he
          exact absurd he.symm (hn k h2)
        · omega
    · by_cases h1 : n < D.length
      · obtain ⟨i, hi, hi2⟩ := h.cv n h1
        exact ⟨i, hi, atF_app hi2⟩
      · rw [show n = D.length by omega]
        exact ⟨j, hj, hat⟩
theorem putF_shd {p : Int} {L : List Gt} (hv : circB p L = true) : ∀ d j, j < d → j < L.length → ∀ D, Shd L D → ∃ F, (putF (tr L j) D).2 = D ++ F ∧ Shd L (D ++ F) ∧ atF (D ++ F) (tr L j) (putF (tr L j) D).1
  | 0, j, h, _, _, _ => by omega
  | d + 1, j, h, hj, D, hD => by
    have hc := gOK_cases ((circB_iff.1 hv).2.2.2 j hj)
    cases hg : joinsB (gAt L j)
    · have e := tr_leaf hg
      have := shr_shd hD ⟨(gAt L j).k, (gAt L j).a, 0⟩ hj (fun E n h1 h2 _ => by rw [e]; exact ⟨h1, h2⟩)
      rw [e] at this ⊢
      exact this
    · have hk : (gAt L j).k = 2 ∨ (gAt L j).k = 3 := by simpa [joinsB] using hg
      have ha : (gAt L j).a.toNat < j := by omega
      have hb : (gAt L j).b.toNat < j := by omega
      have e := tr_join hg ha hb
      obtain ⟨F1, e1, s1, a1⟩ := putF_shd hv d _ (show (gAt L j).a.toNat < d by omega) (by omega) D hD
      obtain ⟨F2, e2, s2, a2⟩ := putF_shd hv d _ (show (gAt L j).b.toNat < d by omega) (by omega) (D ++ F1) s1
      rw [← e1] at e2 s2 a2
      obtain ⟨F3, e3, s3, a3⟩ := shr_shd s2 ⟨(gAt L j).k, ((putF (tr L (gAt L j).a.toNat) D).1 : Nat), ((putF (tr L (gAt L j).b.toNat) (putF (tr L (gAt L j).a.toNat) D).2).1 : Nat)⟩ hj (fun E n h1 h2 hE => by
        obtain ⟨F, rfl⟩ := hE
        rw [e]
        refine ⟨h1, _, _, ?_, atF_app a2, h2⟩
        have := atF_app (E := F2 ++ F) a1
        rwa [← e1, ← List.append_assoc] at this)
      rw [e]
      refine ⟨F1 ++ (F2 ++ F3), ?_, ?_, ?_⟩
      · show (shr _ _).2 = _
        rw [e2, e3, e1]
        simp only [List.append_assoc]
      · rw [e1] at s3
        simpa only [List.append_assoc] using s3
      · rw [e1] at a3
        show atF _ _ (shr _ _).1
        rw [e2, e1]
        rw [e] at a3
        simpa only [List.append_assoc] using a3
theorem pigeon : ∀ (m n : Nat) (φ : Nat → Nat), (∀ i, i < n → φ i < m) → (∀ i j, i < n → j < n → φ i = φ j → i = j) → n ≤ m
  | 0, n, φ, h, _ => by
    refine Classical.byContradiction fun hn => ?_
    have := h 0 (by omega)
    omega
  | m + 1, n, φ, h, hi => by
    by_cases he : ∃ i, i < n ∧ φ i = m
    · obtain ⟨i0, h0, h1⟩ := he
      have := pigeon m (n - 1) (fun i => φ (if i < i0 then i else i + 1)) (fun i hin => by
        show φ (if i < i0 then i else i + 1) < m
        have hlt : (if i < i0 then i else i + 1) < n := by split <;> omega
        have hne : (if i < i0 then i else i + 1) ≠ i0 := by split <;> omega
        have := h _ hlt
        have h2 : φ (if i < i0 then i else i + 1) ≠ m := fun e => hne (hi _ _ hlt h0 (e.trans h1.symm))
        omega) (fun i j h2 h3 h4 => by
        have := hi _ _ (show (if i < i0 then i else i + 1) < n by split <;> omega) (show (if j < i0 then j else j + 1) < n by split <;> omega) h4
        split at this <;> split at this <;> omega)
      omega
    · have := pigeon m n φ (fun i hin => by
        have h1 := h i hin
        have h2 : φ i ≠ m := fun e => he ⟨i, hin, e⟩
        omega) hi
      omega
theorem shd_len {L D : List Gt} (h : Shd L D) : D.length ≤ L.length := by
  refine pigeon L.length D.length (fun n => if hn : n < D.length then Classical.choose (h.cv n hn) else 0) (fun i hi => ?_) (fun i j hi hj e => ?_)
  · simp only [hi, dif_pos]
    exact (Classical.choose_spec (h.cv i hi)).1
  · simp only [hi, hj, dif_pos] at e
    have h1 := (Classical.choose_spec (h.cv i hi)).2
    have h2 := (Classical.choose_spec (h.cv j hj)).2
    rw [e] at h1
    exact atF_one h.nt h1 h2
/-- all that the law of FormulaOfCircuit asks -/
structure FocF (p : Int) (L : List Gt) (s : ByteArray) : Prop where
  sz : (s.size : Int) = sprV p L
  ok : pffB p s = pcOk p L
  po : pffV p s = pcV p L
  fo : (foF p s).isSome = true
  le : (cofV p s).length ≤ L.length
theorem focF {p : Int} {L : List Gt} (h : focB p L = true) : focS p L = tx L (L.length - 1) ∧ FocF p L (tx L (L.length - 1)) := by
  have e : focS p L = tx L (L.length - 1) := by unfold focS; rw [if_pos h]
  unfold focB at h
  simp only [Bool.and_eq_true, decide_eq_true_eq] at h
  obtain ⟨hv, hz⟩ := h
  have hl := (circB_iff.1 hv).2.1
  obtain ⟨f1, f2⟩ := fo_is hv hz
  have w := pf_whole hv
  refine ⟨e, by rw [f2, sprV_at hv], ?_, ?_, by rw [f1]; rfl, ?_⟩
  · unfold pffB; rw [f1]; exact w.1
  · unfold pffV; rw [f1]; exact w.2
  · unfold cofV
    rw [f1]
    obtain ⟨F, e1, s1, _⟩ := putF_shd hv L.length (L.length - 1) (by omega) (by omega) [] ⟨fun i j hi => by simp at hi, fun n hn => by simp at hn⟩
    show (putF (tr L (L.length - 1)) []).2.length ≤ L.length
    rw [e1]
    exact shd_len s1
end Go.Proofs.Ytegkcfinklcglaa
