/-
  FormulaOfCircuit, of the model and of the program, and the walk of its exact law. Conditions: none but that the slice reads as a list of gates.
  FormulaOfCircuit, of the program, and the walk of its exact law. Conditions: none but that the slice reads as a list of gates.
-/
import Derived.Test.YtegkcfinklcglaaBo19
import Derived.Test.YtegkcfinklcglaaBo10
import Derived.Test.YtegkcfinklcglaaBo44
namespace Go.Proofs.Ytegkcfinklcglaa
open Go.RowKit
/-- may the formula be made, and what it is -/
def focB (p : Int) (L : List Gt) : Bool := circB p L && decide (szAt L (L.length - 1) ≤ 60)
def focS (p : Int) (L : List Gt) : ByteArray := if focB p L = true then tx L (L.length - 1) else ⟨#[]⟩
theorem sprV_at {p : Int} {L : List Gt} (hv : circB p L = true) : sprV p L = szAt L (L.length - 1) := by
  have hl := (circB_iff.1 hv).2.1
  unfold sprV
  rw [if_pos hv]
  exact sizL_st L _ _ (by omega)
set_option maxRecDepth 100000 in
set_option maxHeartbeats 4000000 in
theorem sFoC (p : Int) (f : Value) (L : List Gt) (w : World) (h : Gats w f L) :
    Calls Try.prog 72 #[.int .i64 p, f] w fun e w' => e = .returned (.tuple #[.string (focS p L), .bool (focB p L)]) ∧ Below w.heap.size w w' := by
  have HCV := Lib.hid (sCircuitValid p f L w h)
  have HSS := Lib.hid (fun w' (hb : Below w.heap.size w w') => sSpreadSize p f L w' (h.below hb))
  cases hv : circB p L
  · have e1 : focB p L = false := by unfold focB; rw [hv]; rfl
    have e2 : focS p L = ⟨#[]⟩ := by unfold focS; rw [e1]; rfl
    rw [e1, e2]
    rw [hv] at HCV
    obtain ⟨_, a, cap, rfl, _⟩ := h
    clear hv e1 e2
    go_enter Try.func72, Try.ntmps72
    go_wp2_with fail
    refine HCV.out.mono ?_
    rintro e w1 ⟨rfl, hb1⟩
    have HB := Lib.hid hb1
    clear hb1
    go_wp2_with fail
    refine bodyPost_ret (results_tmp2 rfl _ _ _) rfl ?_
    exact ⟨rfl, HB.out⟩
  · rw [hv] at HCV
    rw [sprV_at hv] at HSS
    obtain ⟨g, off, cap, rfl, hg, hc⟩ := gats_u h hv
    obtain ⟨z, hz⟩ : ∃ z, z = szAt L (L.length - 1) := ⟨_, rfl⟩
    rw [← hz] at HSS
    obtain ⟨hp, hl1, hl2, hall⟩ := circB_iff.1 hv
    by_cases h60 : z ≤ 60
    · have e1 : focB p L = true := by unfold focB; rw [hv, ← hz, decide_eq_true h60]; rfl
      have e2 : focS p L = tx L (L.length - 1) := by unfold focS; rw [e1]; rfl
      have hts : (tx L (L.length - 1)).size ≤ 60 := by
        have := tx_size hv (L.length - 1) (by omega) (by omega)
        omega
      rw [e1, e2]
      obtain ⟨n, hn⟩ : ∃ n, L.length = n + 1 := ⟨L.length - 1, by omega⟩
      have hnn : (L.length : Int) - 1 = (n : Int) := by omega
      have hn1 : L.length - 1 = n := by omega
      rw [hn1] at hts ⊢
      have HSP := Lib.hid (fun w' (hb : Below w.heap.size w w') => sSpread p L hv g off cap n w' (by omega) hts (Nat.lt_of_lt_of_le hg hb.size) (fun j hj => (hc j hj).below hb hg))
      obtain ⟨X, hX⟩ : ∃ X, X = tx L n := ⟨_, rfl⟩
      rw [← hX] at HSP ⊢
      have HN := Lib.hid hnn
      clear hv hc hz hall e1 e2 hts hn hn1 hX hp h hnn
      go_enter Try.func72, Try.ntmps72
      go_wp2_with fail
      refine HCV.out.mono ?_
      rintro e w1 ⟨rfl, hb1⟩
      have HB := Lib.hid hb1
      clear hb1
      go_wp2_with fail
      refine (HSS.out _ HB.out).mono ?_
      rintro e w2 ⟨rfl, hb2⟩
      have HB2 := Lib.hid (HB.out.trans (hb2.mono HB.out.size))
      clear hb2
      go_wp2_with fail
      rw [HN.out]
      refine (HSP.out _ HB2.out).mono ?_
      rintro e w3 ⟨rfl, hb3⟩
      have HB3 := Lib.hid (HB2.out.trans (hb3.mono HB2.out.size))
      clear hb3
      go_wp2_with fail
      refine bodyPost_ret (results_tmp2 rfl _ _ _) rfl ?_
      exact ⟨rfl, HB3.out⟩
    · have e1 : focB p L = false := by unfold focB; rw [hv, ← hz, decide_eq_false h60]; rfl
      have e2 : focS p L = ⟨#[]⟩ := by unfold focS; rw [e1]; rfl
      rw [e1, e2]
      clear hv hc hz hall e1 e2 hp h
      go_enter Try.func72, Try.ntmps72
      go_wp2_with fail
      refine HCV.out.mono ?_
      rintro e w1 ⟨rfl, hb1⟩
      have HB := Lib.hid hb1
      clear hb1
      go_wp2_with fail
      refine (HSS.out _ HB.out).mono ?_
      rintro e w2 ⟨rfl, hb2⟩
      have HB2 := Lib.hid (HB.out.trans (hb2.mono HB.out.size))
      clear hb2
      go_wp2_with fail
      refine bodyPost_ret (results_tmp2 rfl _ _ _) rfl ?_
      exact ⟨rfl, HB2.out⟩
/-- a block whose first cells hold texts -/
structure StrW (w : World) (G n : Nat) (F : Nat → Value) : Prop where
  sz : G < w.heap.size
  c : ∀ j, j < n → w.cell? ⟨G, j, none⟩ = some (F j) ∧ w.frozen? ⟨G, j, none⟩ = false
theorem StrW.below {w w' : World} {G n : Nat} {F : Nat → Value} (h : StrW w G n F) (hb : Below w.heap.size w w') : StrW w' G n F :=
  ⟨Nat.lt_of_lt_of_le h.sz hb.size, fun j hj => ⟨by rw [hb.cell (p := ⟨G, j, none⟩) h.sz]; exact (h.c j hj).1, by rw [hb.frozen (p := ⟨G, j, none⟩) h.sz]; exact (h.c j hj).2⟩⟩
theorem StrW.set {w : World} {G n i : Nat} {F : Nat → Value} (h : StrW w G n F) (hi : i < n) (u : Value) : StrW (w.setCell ⟨G, i, none⟩ u) G n (fun j => if j = i then u else F j) := by
  refine ⟨by simpa using h.sz, fun j hj => ⟨?_, by rw [World.frozen?_setCell]; exact (h.c j hj).2⟩⟩
  by_cases e : j = i
  · subst e
    rw [if_pos rfl]
    exact World.cell?_setCell_same _ _ _ (h.c j hj).1
  · rw [if_neg e, World.cell?_setCell_other _ _ _ _ (by simp <;> omega)]
    exact (h.c j hj).1
theorem infoStr : (Try.prog.info? 9).map (fun i => (i.zero, i.size, i.bytes)) = some (some (.string ⟨#[]⟩), 1, 16) := by kernel_rfl
set_option maxRecDepth 100000 in
set_option maxHeartbeats 8000000 in
theorem iFText (p : Int) (L : List Gt) (hv : circB p L = true) (i : Nat) (hi : i < L.length) (x : Gt) (hx : x = L.getD i default) (G n cap : Nat) (F : Nat → Value) (w : World) (hS : StrW w G n F) (hin : i < n) (hsz : (tx L i).size ≤ 60)
    (hF : joinsB (gAt L i) = true → F (gAt L i).a.toNat = .string (tx L (gAt L i).a.toNat) ∧ F (gAt L i).b.toNat = .string (tx L (gAt L i).b.toNat)) :
    Calls Try.prog 148 #[.agg #[.int .i64 x.k, .int .i64 x.a, .int .i64 x.b], .slice (some ⟨G, 0, none⟩) n cap] w fun e w' => e = .returned (.string (tx L i)) ∧ Below w.heap.size w w' := by
  have hgx : gAt L i = ⟨x.k, x.a, x.b⟩ := (gat_mk hx).symm
  cases hj : joinsB (gAt L i)
  · rcases tx_leaf hv hi hj with ⟨hk, he, h0, h1⟩ | ⟨hk, he, h0, h1⟩
    · rw [hgx] at hk he h0 h1
      simp only at hk he h0 h1
      rw [he]
      clear hx hgx he hsz hj hF hS
      obtain ⟨xk, xa, xb⟩ := x
      simp only at hk h0 h1 ⊢
      subst hk
      obtain ⟨m, rfl⟩ := Int.eq_ofNat_of_zero_le h0
      have hw : IntKind.i64.wrap ((m : Int) + 1) = (m : Int) + 1 := IntWalk.i64_in _ (by omega)
      have q1 : (m : Int) + 1 ≤ 3 := by omega
      have q2 : (0 : Int) ≤ (m : Int) + 1 := by omega
      have q3 : (m : Int) ≤ (m : Int) + 1 := by omega
      go_enter Try.func148, Try.ntmps148
      go_wp2_with fail
      go_ret
      exact ⟨rfl, Below.alloc (Below.refl _ _) (Nat.le_refl _) _⟩
    · rw [hgx] at hk he h0 h1
      simp only at hk he h0 h1
      rw [he]
      clear hx hgx he hsz hj hF hS
      obtain ⟨xk, xa, xb⟩ := x
      simp only at hk h0 h1 ⊢
      subst hk
      obtain ⟨m, rfl⟩ := Int.eq_ofNat_of_zero_le h0
      have hw : IntKind.i64.wrap ((m : Int) + 1) = (m : Int) + 1 := IntWalk.i64_in _ (by omega)
      have q1 : (m : Int) + 1 ≤ 13 := by omega
      have q2 : (0 : Int) ≤ (m : Int) + 1 := by omega
      have q3 : (m : Int) ≤ (m : Int) + 1 := by omega
      go_enter Try.func148, Try.ntmps148
      go_wp2_with fail
      go_ret
      exact ⟨rfl, Below.alloc (Below.refl _ _) (Nat.le_refl _) _⟩
  · obtain ⟨he, ha, hb⟩ := tx_join hv hi hj
    obtain ⟨f1, f2⟩ := hF hj
    have hk : (gAt L i).k = 2 ∨ (gAt L i).k = 3 := by simpa [joinsB] using hj
    have hcs := gOK_cases ((circB_iff.1 hv).2.2.2 i hi)
    have hl2 := (circB_iff.1 hv).2.2.1
    rw [hgx] at he ha hb hk hcs f1 f2
    simp only at he ha hb hk hcs f1 f2
    rw [he] at hsz ⊢
    simp only [ByteArray.size_append, sgS_size] at hsz
    have c1 := (hS.c x.a.toNat (by omega)).1
    have c2 := (hS.c x.b.toNat (by omega)).1
    rw [f1] at c1
    rw [f2] at c2
    have hGs := hS.sz
    obtain ⟨A, hA⟩ : ∃ A, A = tx L x.a.toNat := ⟨_, rfl⟩
    obtain ⟨B, hBe⟩ : ∃ B, B = tx L x.b.toNat := ⟨_, rfl⟩
    rw [← hA] at c1 hsz ⊢
    rw [← hBe] at c2 hsz ⊢
    have n1 : ¬ 9223372036854775807 < 1 + A.size := by omega
    have n2 : ¬ 9223372036854775807 < 1 + A.size + B.size := by omega
    have hk2 : (x.k = 2 ∨ x.k = 3) ∧ (0 ≤ x.a ∧ x.a < n) ∧ (0 ≤ x.b ∧ x.b < n) := by omega
    clear hx hgx he hsz hj hF hS hA hBe ha hb hcs f1 f2 hk
    obtain ⟨xk, xa, xb⟩ := x
    obtain ⟨hk, ⟨a0, a1⟩, ⟨b0, b1⟩⟩ := hk2
    simp only at hk a0 a1 b0 b1 c1 c2 ⊢
    obtain ⟨ja, rfl⟩ := Int.eq_ofNat_of_zero_le a0
    obtain ⟨jb, rfl⟩ := Int.eq_ofNat_of_zero_le b0
    simp only [Int.toNat_natCast] at c1 c2
    have a2 : ja < n := by omega
    have b2 : jb < n := by omega
    rcases hk with rfl | rfl
    all_goals
      first | rw [show sgS 2 = ⟨#[43]⟩ from rfl] | rw [show sgS 3 = ⟨#[42]⟩ from rfl]
      go_enter Try.func148, Try.ntmps148
      go_wp2_with fail
      go_quiet (fail)
      go_wp2_with fail
      go_ret
      exact ⟨rfl, by repeat (first | exact Below.refl _ _ | apply Below.drew | apply below_drewN | (refine Below.alloc ?_ (by first | omega | (simp; done)) _))⟩
end Go.Proofs.Ytegkcfinklcglaa
namespace Go.Proofs.Ytegkcfinklcglaa
open Go.RowKit
theorem madeS (z0 : Array Value) (n i : Nat) (h : i < n) : ∃ u, (madeCells z0 n).toList[i]? = some u := by
  rw [List.getElem?_eq_getElem (by simpa [madeCells] using h)]
  exact ⟨_, rfl⟩
theorem snocZ {l : List Int} {k : Nat} (h : k < l.length) : l.take (k + 1) = l.take k ++ [l.getD k 0] := by
  rw [List.take_succ_eq_append_getElem h]
  simp [List.getD_eq_getElem?_getD, h]
/-- what the program's rounds keep: the texts of the used gates so far -/
structure FoW (L : List Gt) (w0 : World) (B G g2 o2 : Nat) (l : List Int) (t : Nat) (F : Nat → Value) (wr : World) : Prop where
  st : StrW wr G L.length F
  li : ∀ j, j < l.length → wr.cell? ⟨g2, o2 + j, none⟩ = some (.int .i64 (l.getD j 0))
  g2s : g2 < wr.heap.size
  ne : g2 ≠ G
  BG : B ≤ G
  low : Below B w0 wr
  ok : ∀ j : Nat, (j : Int) ∈ l.take t → F j = .string (tx L j)
theorem FoW.below {L : List Gt} {w0 : World} {B G g2 o2 t : Nat} {l : List Int} {F : Nat → Value} {wr w1 : World} (h : FoW L w0 B G g2 o2 l t F wr) (hB : B ≤ w0.heap.size) (hb : Below wr.heap.size wr w1) : FoW L w0 B G g2 o2 l t F w1 :=
  ⟨h.st.below hb, fun j hj => by rw [hb.cell (p := ⟨g2, o2 + j, none⟩) h.g2s]; exact h.li j hj, Nat.lt_of_lt_of_le h.g2s hb.size, h.ne, h.BG, h.low.trans (hb.mono (Nat.le_trans hB h.low.size)), h.ok⟩
theorem FoW.put {L : List Gt} {w0 : World} {B G g2 o2 t i : Nat} {l : List Int} {F : Nat → Value} {wr : World} (h : FoW L w0 B G g2 o2 l t F wr) (hi : i < L.length) (ht : t < l.length) (hl : l.getD t 0 = (i : Int)) :
    FoW L w0 B G g2 o2 l (t + 1) (fun j => if j = i then .string (tx L i) else F j) (wr.setCell ⟨G, i, none⟩ (.string (tx L i))) := by
  refine ⟨h.st.set hi _, fun j hj => ?_, by simpa using h.g2s, h.ne, h.BG, h.low.setCell (p := ⟨G, i, none⟩) h.BG _, fun j hj => ?_⟩
  · rw [World.cell?_setCell_other _ _ _ _ (fun e => h.ne (congrArg Addr.block e).symm)]
    exact h.li j hj
  · by_cases e : j = i
    · rw [if_pos e, e]
    · rw [if_neg e]
      rw [snocZ ht, hl] at hj
      rcases List.mem_append.1 hj with hj | hj
      · exact h.ok j hj
      · exact absurd (by have : (j : Int) = (i : Int) := by simpa using hj
                         omega) e
set_option maxRecDepth 100000 in
set_option maxHeartbeats 4000000 in
theorem iFoC_no (p : Int) (f : Value) (L : List Gt) (w : World) (h : Gats w f L) (hz : sprV p L < 0 ∨ 60 < sprV p L) :
    Calls Try.prog 70 #[.int .i64 p, f] w fun e w' => e = .returned (.tuple #[.string ⟨#[]⟩, .bool false]) ∧ Below w.heap.size w w' := by
  have HSS := Lib.hid (iSpreadSize p f L w h)
  obtain ⟨z, hze⟩ : ∃ z, z = sprV p L := ⟨_, rfl⟩
  rw [← hze] at HSS hz
  obtain ⟨_, a, cap, rfl, _⟩ := h
  clear hze
  rcases hz with hz | hz
  · have hz0 : ¬ 0 ≤ z := by omega
    go_enter Try.func70, Try.ntmps70
    go_wp2_with fail
    refine HSS.out.mono ?_
    rintro e w1 ⟨rfl, hb1⟩
    have HB := Lib.hid hb1
    clear hb1
    go_wp2_with fail
    refine bodyPost_ret (results_tmp2 rfl _ _ _) rfl ?_
    exact ⟨rfl, HB.out⟩
  · have hz0 : ¬ z < 0 := by omega
    go_enter Try.func70, Try.ntmps70
    go_wp2_with fail
    refine HSS.out.mono ?_
    rintro e w1 ⟨rfl, hb1⟩
    have HB := Lib.hid hb1
    clear hb1
    go_wp2_with fail
    refine bodyPost_ret (results_tmp2 rfl _ _ _) rfl ?_
    exact ⟨rfl, HB.out⟩
set_option maxRecDepth 100000 in
set_option maxHeartbeats 8000000 in
theorem iFoC_yes (p : Int) (f : Value) (L : List Gt) (w : World) (h : Gats w f L) (hv : circB p L = true) (hz : szAt L (L.length - 1) ≤ 60) :
    Calls Try.prog 70 #[.int .i64 p, f] w fun e w' => e = .returned (.tuple #[.string (tx L (L.length - 1)), .bool true]) ∧ Below w.heap.size w w' := by
  obtain ⟨i0, hi, hz0, hz1, hz2⟩ := info_parts infoStr
  have HSS := Lib.hid (iSpreadSize p f L w h)
  rw [sprV_at hv] at HSS
  have HUG := Lib.hid (fun w' (hb : Below w.heap.size w w') => iUsedGates p f L w' (h.below hb))
  rw [show useV p L = useTo (useF L) 60 by simp [useV, hv]] at HUG
  obtain ⟨g, off, cap, rfl, hg, hc⟩ := gats_u h hv
  obtain ⟨hp, hl1, hl2, hall⟩ := circB_iff.1 hv
  have hz3 : 0 ≤ szAt L (L.length - 1) := (sizL_bd L (L.length - 1 + 1) (L.length - 1)).1
  have hts : (tx L (L.length - 1)).size ≤ 60 := by
    have := tx_size hv (L.length - 1) (by omega) (by omega)
    omega
  have HTU := Lib.hid (fun j (hj : j < L.length) (hu : useF L j = true) => tx_used hv hts _ j hj hu)
  obtain ⟨z, hze⟩ : ∃ z, z = szAt L (L.length - 1) := ⟨_, rfl⟩
  rw [← hze] at HSS hz hz3
  have hz4 : ¬ 60 < z := by omega
  have hz5 : ¬ z < 0 := by omega
  obtain ⟨m, hm⟩ : ∃ m, L.length = m + 1 := ⟨L.length - 1, by omega⟩
  have hmm : (L.length : Int) - 1 = (m : Int) := by omega
  rw [show L.length - 1 = m by omega] at hts ⊢
  obtain ⟨X, hX⟩ : ∃ X, X = tx L m := ⟨_, rfl⟩
  rw [← hX]
  obtain ⟨l, hl⟩ : ∃ l, l = useTo (useF L) 60 := ⟨_, rfl⟩
  rw [← hl] at HUG
  have HML := Lib.hid (show ((m : Nat) : Int) ∈ l by
    rw [hl]
    refine sp_mem (by omega) ?_
    have := useF_last hv
    rwa [show L.length - 1 = m by omega] at this)
  have hll : l.length ≤ 60 := by rw [hl]; exact useTo_len _ _
  have HL := Lib.hid hl
  have HV := Lib.hid hv
  have HC := Lib.hid hc
  have HX := Lib.hid hX
  have HMM := Lib.hid hmm
  have HM1 := Lib.hid hm
  clear hze hts hall hX hl hv hc hm hmm h hp
  go_enter Try.func70, Try.ntmps70
  go_wp2_with fail
  refine HSS.out.mono ?_
  rintro e w1 ⟨rfl, hb1⟩
  have HB1 := Lib.hid hb1
  have hgr0 := hb1.size
  clear hb1
  go_wp2_with (at_make; refine wpList_make_full _ rfl _ _ 154 rfl w1.heap.size 9 i0 (.string ⟨#[]⟩) 1 Try.underlying154 hi hz0 hz1 .i64 .i64 L.length L.length L.length rfl rfl rfl rfl ?c2 ?c3 ?c4 ?_)
  case c2 => rw [hz2]; omega
  case c3 => unfold maxLen; omega
  case c4 => exact Nat.le_refl _
  intro w2 hown hgr
  have hb2 : Below w1.heap.size w1 w2 := (Below.refl _ _).grown hgr (Nat.le_refl _) (fun k hk => by cases hk)
  obtain ⟨F0, hF0⟩ : ∃ F0 : Nat → Value, StrW w2 w1.heap.size L.length F0 := by
    refine ⟨fun j => (w2.cell? ⟨w1.heap.size, j, none⟩).getD undef, (hown.lt _ rfl).2, fun j hj => ⟨?_, hown.frozenAt j⟩⟩
    have e := hown.cellAt j (by omega)
    cases hc : w2.cell? ⟨w1.heap.size, j, none⟩ with
    | some u => rfl
    | none =>
      rw [hc] at e
      obtain ⟨u, hu⟩ := madeS (Value.string ⟨#[]⟩).cells L.length j hj
      exact absurd (e.trans hu) (by simp)
  have HS2 := Lib.hid hF0
  have HB2 := Lib.hid (HB1.out.trans (hb2.mono hgr0))
  have hGs : w.heap.size ≤ w1.heap.size := hgr0
  obtain ⟨G, hG⟩ : ∃ G, G = w1.heap.size := ⟨_, rfl⟩
  rw [← hG] at HS2 hGs ⊢
  clear hown hgr hb2 hF0 hG hi hz0 hz1 hz2
  go_wp2_with fail
  refine (HUG.out _ HB2.out).mono ?_
  rintro e w3 ⟨v3, rfl, hO, hb3⟩
  obtain ⟨_, al, cl, rfl, hO⟩ := hO
  have hl0 : 0 < l.length := List.length_pos_of_mem HML.out
  rcases hO with h0 | ⟨g2, o2, rfl, hB2, hg2, hcl, _⟩
  · rw [h0] at hl0; simp at hl0
  have hS3 := HS2.out.below hb3
  have HW := Lib.hid (show FoW L w w.heap.size G g2 o2 l 0 F0 w3 from
    ⟨hS3, hcl, hg2, by have := HS2.out.sz; omega, hGs, HB2.out.trans (hb3.mono HB2.out.size), fun j hj => by simp at hj⟩)
  clear hcl hb3 hB2 hg2 hS3
  go_wp2_with fail
  go_loopw [26] (fun i wr => ∃ (t : Nat) (F : Nat → Value), t ≤ l.length ∧ i = .int .i64 t ∧ FoW L w w.heap.size G g2 o2 l t F wr) (fun i _ => l.length - (intOf i).toNat)
  case atStart => exact ⟨0, F0, by omega, rfl, HW.out⟩
  case round =>
    clear HW
    obtain ⟨t, F, ht, rfl, hS⟩ := hrel
    by_cases hlt : t < l.length
    · have hltp : (t : Int) < (l.length : Int) := by omega
      have ht0 : (0 : Int) ≤ (t : Int) := by omega
      obtain ⟨j, hj60, huj, hjl, hju⟩ := sp_pos (useF L) 60 t (by rw [← HL.out]; exact hlt)
      rw [← HL.out] at hjl hju
      have hjL : j < L.length := useM_lt HV.out _ j huj
      have hjp : (j : Int) < (L.length : Int) := by omega
      have hj0 : (0 : Int) ≤ (j : Int) := by omega
      have q0 := hS.li t hlt
      rw [hjl] at q0
      obtain ⟨a0, a1, a2⟩ := (HC.out j hjL).below hS.low hg
      obtain ⟨x, hx⟩ : ∃ x, x = L.getD j default := ⟨_, rfl⟩
      rw [← hx] at a0 a1 a2
      have HT := Lib.hid (iFText p L HV.out j hjL x hx G L.length L.length F wr hS.st hjL (HTU.out j hjL huj) (fun hg => by
        obtain ⟨u1, u2⟩ := use_closed HV.out hjL huj hg
        obtain ⟨_, l1, l2⟩ := tx_join HV.out hjL hg
        exact ⟨hS.ok _ (by rw [← hju]; exact sp_mem l1 u1), hS.ok _ (by rw [← hju]; exact sp_mem l2 u2)⟩))
      have HS := Lib.hid hS
      have HJL := Lib.hid hjl
      clear hS hx huj hjl hju
      go_wp2_with fail
      refine HT.out.mono ?_
      rintro e w4 ⟨rfl, hb4⟩
      have H4 := Lib.hid (HS.out.below (Nat.le_refl _) hb4)
      clear hb4 q0 a0 a1 a2
      obtain ⟨c4, f4⟩ := H4.out.st.c j hjL
      have hG4 := H4.out.st.sz
      have H5 := Lib.hid (H4.out.put hjL hlt HJL.out)
      obtain ⟨T, hT⟩ : ∃ T, T = tx L j := ⟨_, rfl⟩
      rw [← hT] at H5 ⊢
      clear hT
      go_wp2_with fail
      go_roundw
      case rel => exact ⟨t + 1, _, by omega, by go_num, H5.out⟩
      case measure => simp [intOf]; omega
    · have htl : t = l.length := by omega
      subst htl
      have hm1 := HM1.out
      have c9 := (hS.st.c m (by omega)).1
      rw [hS.ok m (by rw [List.take_length]; exact HML.out), ← HX.out] at c9
      have hm0 : (0 : Int) ≤ (m : Int) := by omega
      have hmL : (m : Int) < (L.length : Int) := by omega
      have HQ := Lib.hid hS.low
      clear hS hm1
      go_wp2_with (go_at_call 128; refine (iLast _ L.length _ m (by omega) HMM.out _).mono ?_; rintro e w' ⟨rfl, rfl⟩)
      refine bodyPost_ret (results_tmp2 rfl _ _ _) rfl ?_
      exact ⟨rfl, HQ.out⟩
theorem iFoC (p : Int) (f : Value) (L : List Gt) (w : World) (h : Gats w f L) :
    Calls Try.prog 70 #[.int .i64 p, f] w fun e w' => e = .returned (.tuple #[.string (focS p L), .bool (focB p L)]) ∧ Below w.heap.size w w' := by
  cases hv : circB p L
  · have e1 : focB p L = false := by unfold focB; rw [hv]; rfl
    have e2 : focS p L = ⟨#[]⟩ := by unfold focS; rw [e1]; rfl
    rw [e1, e2]
    exact iFoC_no p f L w h (.inl (by simp [sprV, hv]))
  · by_cases hz : szAt L (L.length - 1) ≤ 60
    · have e1 : focB p L = true := by unfold focB; rw [hv, decide_eq_true hz]; rfl
      have e2 : focS p L = tx L (L.length - 1) := by unfold focS; rw [e1]; rfl
      rw [e1, e2]
      exact iFoC_yes p f L w h hv hz
    · have e1 : focB p L = false := by unfold focB; rw [hv, decide_eq_false hz]; rfl
      have e2 : focS p L = ⟨#[]⟩ := by unfold focS; rw [e1]; rfl
      rw [e1, e2]
      exact iFoC_no p f L w h (.inr (by rw [sprV_at hv]; omega))
end Go.Proofs.Ytegkcfinklcglaa
