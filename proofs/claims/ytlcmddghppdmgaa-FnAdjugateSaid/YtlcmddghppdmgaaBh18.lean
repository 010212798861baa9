/-
  Parts of rows that are copied, and matrices without a row and a column. Conditions: none.
  l8Minor of the model: a matrix without a row and a column. Conditions: the row and the column lie in it.
  The model's expansion over the first row. Conditions: a square matrix of elements, of at most four rows.
-/
import Derived.Test.YtlcmddghppdmgaaBh17
import Derived.Laws.IdiomCopy
import Derived.Lib.SlBuf
import Derived.Test.YtlcmddghppdmgaaBh4
import Derived.Test.YtlcmddghppdmgaaBh1
import Derived.Test.YtlcmddghppdmgaaBh13
namespace Go.Proofs.Ytlcmddghppdmgaa
set_option linter.unusedVariables false
open Go.RowKit
/-- places of a matrix's rows, told once -/
theorem MatC.plc {w : World} {g off r c : Nat} {E : Nat → Nat → Int} (h : MatC w g off r c E) {i : Nat} (hi : i < r) : ∃ hh o cp, c ≤ cp ∧ (∀ w', Below w.heap.size w w' → w'.cell? ⟨g, off + i, none⟩ = some (.slice (some ⟨hh, o, none⟩) c cp)) ∧ ∀ w', Below w.heap.size w w' → ∀ k, k < c → w'.cell? ⟨hh, o + k, none⟩ = some (.int .i64 (E i k)) := by
  obtain ⟨hh, o, cp, h1, h2, h3⟩ := h.2 i hi
  exact ⟨hh, o, cp, h2.2, fun w' hb => by rw [hb.cell (p := ⟨g, off + i, none⟩) h.1]; exact h1, fun w' hb k hk => by rw [hb.cell (p := ⟨hh, o + k, none⟩) h2.1]; exact h3 k hk⟩
def vals (n : Nat) (G : Nat → Int) : List Value := (List.range n).map fun j => .int .i64 (G j)
theorem vals_len (n : Nat) (G : Nat → Int) : (vals n G).length = n := by simp [vals]
theorem vals_get {n : Nat} {G : Nat → Int} {j : Nat} {v : Value} (h : (vals n G)[j]? = some v) : j < n ∧ v = .int .i64 (G j) := by
  have hj : j < n := by
    rcases Nat.lt_or_ge j n with h1 | h1
    · exact h1
    · rw [List.getElem?_eq_none (by rw [vals_len]; exact h1)] at h; cases h
  refine ⟨hj, ?_⟩
  have : (vals n G)[j]? = some (.int .i64 (G j)) := by simp [vals, hj]
  rw [this] at h
  injection h with h
  exact h.symm
theorem copy_ints (w : World) (ty : TypeId) (b o dLen dCap h q sLen sCap n : Nat) (G : Nat → Int) (hn : n = Nat.min sLen dLen)
    (hsrc : ∀ j, j < n → w.cell? ⟨h, q + j, none⟩ = some (.int .i64 (G j))) (hc : ∀ j, j < n → ∃ x, w.cell? ⟨b, o + j, none⟩ = some x) (hf : ∀ j, j < n → w.frozen? ⟨b, o + j, none⟩ = false) :
    (Builtin.copy_ #[62, 62] ty #[.slice (some ⟨b, o, none⟩) dLen dCap, .slice (some ⟨h, q, none⟩) sLen sCap]).run Try.prog w = .ok (goInt n) (w.setCells b o (vals n G)) := by
  obtain ⟨i0, hi, hz0, hz1, hz2⟩ := info_parts infoIn
  have := run_copy_cells (P := Try.prog) w 62 62 ty 3 b o dLen dCap ⟨h, q, none⟩ sLen sCap (vals n G) Try.underlying62 (by rw [hi]; simp [hz1]) (by rw [vals_len, hn])
    (fun j v hv => by
      obtain ⟨hj, rfl⟩ := vals_get hv
      have hadd : (⟨h, q, none⟩ : Addr).add j = ⟨h, q + j, none⟩ := by unfold Addr.add; split <;> simp_all
      rw [hadd]; exact hsrc j hj)
    (fun j hj => by rw [vals_len] at hj; obtain ⟨x, hx⟩ := hc j hj; rw [hx]; rfl) (fun j hj => by rw [vals_len] at hj; exact hf j hj)
    (fun v hv => by
      unfold vals at hv
      obtain ⟨j, _, rfl⟩ := List.mem_map.1 hv
      rfl)
  rw [vals_len] at this
  exact this
/-- some elements of a row turned -/
def updR (F : Nat → Nat → Int) (i q n : Nat) (G : Nat → Int) : Nat → Nat → Int := fun a b => if a = i ∧ q ≤ b ∧ b < q + n then G (b - q) else F a b
theorem setCells_size (b o : Nat) : ∀ (vs : List Value) (w : World) (o : Nat), (w.setCells b o vs).heap.size = w.heap.size
  | [], _, _ => rfl
  | v :: vs, w, o => by show ((w.setCell ⟨b, o, none⟩ v).setCells b (o + 1) vs).heap.size = _; rw [setCells_size b o vs]; simp
theorem setCells_below {B b : Nat} (hb : B ≤ b) : ∀ (vs : List Value) (w : World) (o : Nat), Below B w (w.setCells b o vs)
  | [], _, _ => Below.refl _ _
  | v :: vs, w, o => by
    show Below B w ((w.setCell ⟨b, o, none⟩ v).setCells b (o + 1) vs)
    exact ((Below.refl _ _).setCell hb v).trans (setCells_below hb vs _ _)
theorem OMat.setsF {w : World} {B g off i q n c r : Nat} {H O : Nat → Nat} {F : Nat → Nat → Int} (h : OMat w B g off H O (matF c F r)) (hi : i < r) (hc : 0 < c) (hq : q + n ≤ c) (G : Nat → Int) :
    OMat (w.setCells (H i) (O i + q) (vals n G)) B g off H O (matF c (updR F i q n G) r) := by
  obtain ⟨cap, h1, h2, h3, h4, h5⟩ := h.cellF hi hc
  have hl : i < (matF c F r).length := by rw [matF_len]; exact hi
  have hrl : (rowM (matF c F r) i).length = c := by rw [matF_row hi]; simp
  have hin := World.cell?_setCells_in (H i) (vals n G) (O i + q) w (fun j hj => by
    rw [vals_len] at hj
    have := (h5 (q + j) (by omega)).1
    rw [← Nat.add_assoc] at this
    rw [this]; rfl)
  have key := h.row hl (w' := w.setCells (H i) (O i + q) (vals n G)) ((List.range c).map (updR F i q n G i)) (by rw [hrl]; simp) (setCells_size _ 0 _ _ _) (fun a => World.frozen?_setCells _ _ _ _ _)
    (fun j hj => by
      have hj : j < c := by simpa using hj
      have e : ((List.range c).map (updR F i q n G i)).getD j 0 = updR F i q n G i j := by simp [List.getD_eq_getElem?_getD, hj]
      rw [e]
      unfold updR
      by_cases hh : q ≤ j ∧ j < q + n
      · rw [if_pos ⟨rfl, hh⟩]
        have := hin (j - q) (by rw [vals_len]; omega)
        rw [show O i + q + (j - q) = O i + j by omega] at this
        rw [this]
        simp [vals]
      · rw [if_neg (fun h => hh h.2), World.cell?_setCells_out (H i) _ _ _ _ (fun _ _ => by rw [vals_len]; show O i + j < _ ∨ _ ≤ O i + j; omega)]
        exact (h5 j hj).1)
    (fun p hp => by
      refine World.cell?_setCells_out (H i) _ _ _ _ (fun hb hs => ?_)
      rw [vals_len]
      rcases Nat.lt_or_ge p.off (O i + q) with h6 | h6
      · exact .inl h6
      · rcases Nat.lt_or_ge p.off (O i + q + n) with h7 | h7
        · exfalso
          refine hp (p.off - O i) (by simp; omega) ?_
          obtain ⟨pb, po, ps⟩ := p
          simp only at hb hs h6 h7 ⊢
          subst hb; subst hs
          rw [show O i + (po - O i) = po by omega]
        · exact .inr h7)
  have e : (matF c F r).set i ((List.range c).map (updR F i q n G i)) = matF c (updR F i q n G) r := by
    refine rowM_ext (by simp [matF]) (fun a ha => ?_)
    have ha : a < r := by simpa [matF] using ha
    rw [matF_row ha]
    by_cases e : a = i
    · subst e; rw [rw_set_self hl]
    · rw [rw_set_ne e, matF_row ha]
      apply List.map_congr_left
      intro b _
      unfold updR
      rw [if_neg (fun h => e h.1)]
  rw [e] at key
  exact key
/-- an index past one that is left out -/
def sk (q i : Nat) : Nat := if i < q then i else i + 1
theorem sk_lt {q i n : Nat} (h : i < n - 1) : sk q i < n := by unfold sk; split <;> omega
/-- the elements without a row and a column -/
def minE (E : Nat → Nat → Int) (row col i k : Nat) : Int := E (sk row i) (sk col k)
def minB (p : Int) (M : List (List Int)) (row col : Int) : Bool :=
  matB p M && (decide (2 ≤ M.length) && (decide (2 ≤ (rowM M 0).length) && ((decide (0 ≤ row) && decide (row < (M.length : Int))) && (decide (0 ≤ col) && decide (col < ((rowM M 0).length : Int))))))
theorem minB_iff {p : Int} {M : List (List Int)} {row col : Int} : minB p M row col = true ↔ matB p M = true ∧ 2 ≤ M.length ∧ 2 ≤ (rowM M 0).length ∧ (0 ≤ row ∧ row < (M.length : Int)) ∧ 0 ≤ col ∧ col < ((rowM M 0).length : Int) := by
  simp [minB]
def mnrV (p : Int) (M : List (List Int)) (row col : Int) : List (List Int) := if minB p M row col = true then matF ((rowM M 0).length - 1) (minE (el M) row.toNat col.toNat) (M.length - 1) else []
theorem mnrV_rows (p : Int) (M : List (List Int)) (row col : Int) : (mnrV p M row col).length ≤ 100 ∧ ∀ i, i < (mnrV p M row col).length → 0 < (rowM (mnrV p M row col) i).length ∧ (rowM (mnrV p M row col) i).length ≤ 1000 := by
  unfold mnrV
  by_cases h : minB p M row col = true
  · obtain ⟨h0, h1, h2, _⟩ := minB_iff.1 h
    obtain ⟨_, h3, h4, _⟩ := matB_iff.1 h0
    rw [if_pos h, matF_len]
    refine ⟨by omega, fun i hi => ?_⟩
    rw [matF_row hi]; simp; omega
  · rw [if_neg h]; exact ⟨by simp, fun i hi => absurd hi (Nat.not_lt_zero i)⟩
/-- the rows that the program's MinorOf has behind it -/
def minF (E : Nat → Nat → Int) (row col n a b : Nat) : Int := if a < n then minE E row col a b else 0
theorem minF_step {E : Nat → Nat → Int} {row col n c a b : Nat} (hc : col < c) (hb : b < c - 1) :
    updR (updR (minF E row col n) n 0 col (fun j => E (sk row n) j)) n col (c - 1 - col) (fun j => E (sk row n) (col + 1 + j)) a b = minF E row col (n + 1) a b := by
  unfold updR minF
  by_cases e : a = n
  · subst e
    rw [if_pos (show a < a + 1 by omega)]
    by_cases h : b < col
    · rw [if_neg (by omega), if_pos ⟨rfl, by omega, by omega⟩]
      simp [minE, sk, h]
    · rw [if_pos ⟨rfl, by omega, by omega⟩]
      simp only [minE]
      rw [show sk col b = col + 1 + (b - col) by unfold sk; rw [if_neg h]; omega]
  · rw [if_neg (fun h => e h.1), if_neg (fun h => e h.1)]
    by_cases h : a < n
    · rw [if_pos h, if_pos (by omega)]
    · rw [if_neg h, if_neg (by omega)]
end Go.Proofs.Ytlcmddghppdmgaa
namespace Go.Proofs.Ytlcmddghppdmgaa
set_option linter.unusedVariables false
open Go.RowKit
/-- an append at a step of a region, of however many elements, onto a slice that lies somewhere -/
theorem wp_append_any {P : Program} (w : World) {o : Oper} {a : Act} {K : Act → World → Prop} {Q : Exit → Act → World → Prop} (s x : Operand) (t : TypeId)
    (ho : o.op = .call { callee := .builtin .append, args := #[s, x], argTypes := #[t, t] })
    (base : Nat) (e : TypeId) (i : TypeInfo) (z : Value) (size bytes : Nat) (ht : P.underlying t = some (.slice e)) (hi : P.info? e = some i) (hz : i.zero = some z)
    (hsize : i.size = size) (hby : i.bytes = bytes) (hzs : z.cells.size = size) (hsz : 0 < size)
    (g0 n c0 : Nat) (xs : List Value) (hs : a.eval s = .slice (some ⟨g0, 0, none⟩) n c0) (hown : w.ownsRow base e size (.slice (some ⟨g0, 0, none⟩) n c0) n xs)
    (ad : Addr) (m c : Nat) (news : List Value) (hx : a.eval x = .slice (some ad) m c) (hl : news.length = m * size) (hnews : ∀ j u, news[j]? = some u → w.cell? (ad.add j) = some u) (h1 : ∀ u ∈ news, u.oneCell' = true)
    (h63 : n + m ≤ maxLen) (hbytes : (n + m) * bytes ≤ 140737488355328) (hbase : base ≤ w.heap.size)
    (h : ∀ g cap w', w'.ownsRow base e size (.slice (some ⟨g, 0, none⟩) (n + m) cap) (n + m) (xs ++ news) → w.grownBy w' (some g0) → (g = g0 ∨ g = w.heap.size) → K (a.put o.dst (.slice (some ⟨g, 0, none⟩) (n + m) cap)) w') : o.wp P a w K Q := by
  obtain ⟨v', w', hr, h2, h3, h4, h5⟩ := run_append_own_at (P := P) w base t o.type e i z size bytes ht hi hz hsize hby hzs hsz _ n xs hown ad m c news hl hnews h1 h63 hbytes hbase
  have hn : v' ≠ .slice none 0 0 := fun e => by have := (h4.1 e).1; cases this
  obtain ⟨g, cap, rfl⟩ : ∃ g cap, v' = .slice (some ⟨g, 0, none⟩) (n + m) cap := by
    rcases h2.2 with ⟨h6, _⟩ | ⟨g, cap, cur, h6, _⟩
    · exact absurd h6 hn
    · exact ⟨g, cap, h6⟩
  have h7 : g = g0 ∨ g = w.heap.size := by
    rcases h5 with h5 | h5
    · left; simpa [Value.ownBlock] using h5
    · right; simpa [Value.ownBlock] using h5
  unfold Oper.wp execOp
  simp only [ho, resolve, invoke, builtin, Sem.run_bind, Sem.run_pure, Result.andThen_ok, List.map_toArray, List.map_cons, List.map_nil, hs, hx, hr]
  exact h g cap w' h2 h3 h7
theorem vals_one {n : Nat} {G : Nat → Int} : ∀ u ∈ vals n G, u.oneCell' = true := by
  intro v hv
  unfold vals at hv
  obtain ⟨j, _, rfl⟩ := List.mem_map.1 hv
  rfl
theorem vals_at {w : World} {h q n : Nat} {G : Nat → Int} (hsrc : ∀ j, j < n → w.cell? ⟨h, q + j, none⟩ = some (.int .i64 (G j))) : ∀ j u, (vals n G)[j]? = some u → w.cell? ((⟨h, q, none⟩ : Addr).add j) = some u := by
  intro j u hv
  obtain ⟨hj, rfl⟩ := vals_get hv
  have hadd : (⟨h, q, none⟩ : Addr).add j = ⟨h, q + j, none⟩ := by unfold Addr.add; split <;> simp_all
  rw [hadd]; exact hsrc j hj
theorem min_row {E : Nat → Nat → Int} {L c i : Nat} (hL : L < c) : vals L (fun j => E i j) ++ vals (c - (L + 1)) (fun j => E i (L + 1 + j)) = ((List.range (c - 1)).map (fun k => E i (sk L k))).map (Value.int .i64) := by
  apply List.ext_getElem (by simp [vals]; omega)
  intro k h1 h2
  have hk : k < c - 1 := by simpa using h2
  simp only [List.getElem_map, List.getElem_range]
  by_cases h : k < L
  · rw [List.getElem_append_left (by rw [vals_len]; exact h)]
    simp [vals, sk, h]
  · rw [List.getElem_append_right (by rw [vals_len]; omega)]
    simp only [vals, List.getElem_map, List.getElem_range, List.length_map, List.length_range]
    rw [show sk L k = L + 1 + (k - L) by unfold sk; rw [if_neg h]; omega]
/-- the rows that the model has made behind i rounds -/
def doneR (R i : Nat) : Nat := if i ≤ R then i else i - 1
theorem doneR_hit {R i : Nat} (h : i ≠ R) : doneR R (i + 1) = doneR R i + 1 ∧ sk R (doneR R i) = i := by
  unfold doneR sk
  by_cases h1 : i < R
  · rw [if_pos (show i ≤ R by omega), if_pos (show i + 1 ≤ R by omega), if_pos h1]
    exact ⟨rfl, rfl⟩
  · rw [if_neg (show ¬ i ≤ R by omega), if_neg (show ¬ i + 1 ≤ R by omega), if_neg (by omega)]
    omega
theorem doneR_miss (R : Nat) : doneR R (R + 1) = doneR R R := by
  unfold doneR; rw [if_neg (by omega), if_pos (by omega)]; omega
set_option maxRecDepth 100000 in
set_option maxHeartbeats 16000000 in
theorem sMinor (g off cap r c R L : Nat) (E : Nat → Nat → Int) (w : World) (hC : MatC w g off r c E) (hr1 : 1 ≤ r) (hr4 : r ≤ 4) (hc4 : c ≤ 4) (hR : R < r) (hL : L < c) :
    Calls Try.prog 165 #[.slice (some ⟨g, off, none⟩) r cap, .int .i64 R, .int .i64 L] w fun e w' => ∃ u V H, e = .returned u ∧ RowsW w' w.heap.size u (matF (c - 1) (minE E R L) (r - 1)) V H ∧ Below w.heap.size w w' := by
  obtain ⟨i0, hi, hz0, hz1, hz2⟩ := info_parts infoIn
  obtain ⟨is, his, hs0, hs1, hs2⟩ := info_parts infoIS
  have HP := Lib.hid (fun i (hi : i < r) => hC.plc hi)
  have hrp : 0 < r := by omega
  have hL0 : (0 : Int) ≤ (L : Int) := by omega
  have hL10 : (0 : Int) ≤ (L : Int) + 1 := by omega
  have hLc : (L : Int) ≤ (c : Int) := by omega
  have hLc1 : (L : Int) + 1 ≤ (c : Int) := by omega
  have hwL : IntKind.i64.wrap ((L : Int) + 1) = (L : Int) + 1 := IntWalk.i64_in _ (by omega)
  have HS := Lib.hid (show RowsW (w.alloc (.cells #[] 62)) w.heap.size (.slice (some ⟨w.heap.size, 0, none⟩) 0 0) (matF (c - 1) (minE E R L) (doneR R 0)) [] (fun _ => 0) ∧ Below w.heap.size w (w.alloc (.cells #[] 62)) from
    ⟨by rw [show doneR R 0 = 0 from rfl]; exact RowsW.lit w _ (Nat.le_refl _), Below.alloc (Below.refl _ _) (Nat.le_refl _) _⟩)
  clear hC
  go_enter Try.func165, Try.ntmps165
  go_wp2_with fail
  go_loopw [7, 13] (fun v i wr => ∃ (n : Nat) (V : List Value) (H : Nat → Nat), n ≤ r ∧ i = .int .i64 n ∧ RowsW wr w.heap.size v (matF (c - 1) (minE E R L) (doneR R n)) V H ∧ Below w.heap.size w wr) (fun _ i _ => r - (intOf i).toNat)
  case atStart => exact ⟨0, _, _, by omega, rfl, HS.out⟩
  case round =>
    clear HS
    obtain ⟨n, V, H, hn, rfl, hS, hb⟩ := hrel
    by_cases hlt : n < r
    · have hltp : (n : Int) < (r : Int) := by omega
      have hn0 : (0 : Int) ≤ (n : Int) := by omega
      obtain ⟨hh, ho, hcp, hcc, q3, q4⟩ := HP.out n hlt
      have q3 := q3 _ hb
      by_cases hnR : n = R
      · have hne : ((n : Int) != (R : Int)) = false := by simp [hnR]
        have e : doneR R (n + 1) = doneR R n := by rw [hnR]; exact doneR_miss R
        rw [← e] at hS
        have HF := Lib.hid (And.intro hS hb)
        clear hS hb q4 hnR e
        go_wp2_with fail
        go_roundw
        case rel => exact ⟨n + 1, _, _, by omega, by go_num, HF.out⟩
        case measure => simp [intOf]; omega
      · have hne : ((n : Int) != (R : Int)) = true := by simp; omega
        have hd := doneR_hit hnR
        obtain ⟨d, hde⟩ : ∃ d, d = doneR R n := ⟨_, rfl⟩
        rw [← hde] at hS hd
        have hdr : d < r - 1 := by
          have : doneR R (n + 1) ≤ r - 1 := by unfold doneR; split <;> omega
          omega
        have hwb : w.heap.size ≤ wr.heap.size := hb.size
        have hVl : V.length ≤ 5 := by rw [hS.len, matF_len]; omega
        have HE := Lib.hid hd
        have HB := Lib.hid hb
        have HS := Lib.hid hS
        have HQ := Lib.hid (fun w' (hw : Below wr.heap.size wr w') k (hk : k < c) => q4 w' (hb.trans (hw.mono hb.size)) k hk)
        have hLp : L ≤ hcp := by omega
        have hsl : (if hcp = L + 1 then (some ⟨hh, ho, none⟩ : Option Addr) else some ⟨hh, ho + (L + 1), none⟩) = (if hcp = L + 1 then (some ⟨hh, ho, none⟩ : Option Addr) else some ⟨hh, ho + (L + 1), none⟩) := rfl
        have HDS := Lib.hid (show ∃ sd, (if hcp = L + 1 then (some ⟨hh, ho, none⟩ : Option Addr) else some ⟨hh, ho + (L + 1), none⟩) = some ⟨hh, sd, none⟩ ∧ (L + 1 < c → sd = ho + (L + 1)) from by
          by_cases e2 : hcp = L + 1
          · exact ⟨_, if_pos e2, fun h => by omega⟩
          · exact ⟨_, if_neg e2, fun _ => rfl⟩)
        clear hS hb q4 hde hd hsl
        go_wp2_with fail
        refine wp_region_seq [(0, true), (2, true), (3, true), (4, true), (6, true), (7, true), (8, true), (9, true), (1, false), (5, false), (10, false), (11, false), (12, false)] (fun _ => True) (by kernel_rfl) (by kernel_rfl) rfl (by intro c a d v w h; cases d <;> exact h) trivial ?_
        iterate 8 (refine wpSeq_take (v := ?_) (List.getElem?_toArray.trans rfl) ?_ ?_; rotate_left; (intro w' hSw; (try dsimp only at hSw); go_simp; (try with_reducible rfl)); (try simp only [Act.put, List.setIfInBounds_toArray, List.set_cons_zero, List.set_cons_succ]))
        refine wpSeq_do (List.getElem?_toArray.trans rfl) (fun K hK => ?_)
        go_simp
        refine hK _ _ trivial ?_
        clear hK K
        obtain ⟨sd, hsd, hsL⟩ := HDS.out
        rw [hsd]
        obtain ⟨W0, hW0⟩ : ∃ W0, W0 = (wr.alloc (Obj.cells #[] 3)).drew := ⟨_, rfl⟩
        have hb0 : Below wr.heap.size wr W0 := by rw [hW0]; exact Below.drew (Below.alloc (Below.refl _ _) (Nat.le_refl _) _)
        have hE0 : W0.ownsRow wr.heap.size 3 1 (.slice (some ⟨wr.heap.size, 0, none⟩) 0 0) 0 [] := by
          rw [hW0]; exact (World.ownsRow_lit (size := 1) wr #[] 0 (Nat.le_refl _) (by unfold maxLen; omega) rfl).drew
        rw [← hW0]
        clear hW0 hsd
        refine wpSeq_do (List.getElem?_toArray.trans rfl) (fun K hK => ?_)
        refine wp_append_any _ _ _ 62 rfl wr.heap.size 3 i0 (.int .i64 0) 1 8 Try.underlying62 hi hz0 hz1 hz2 rfl (by decide) wr.heap.size 0 0 [] rfl hE0 ⟨hh, ho, none⟩ L hcp (vals L (fun j => E n j)) rfl (by rw [vals_len]; omega) (vals_at (fun j hj => HQ.out W0 hb0 j (by omega))) vals_one (by unfold maxLen; omega) (by omega) hb0.size ?_
        intro g5 c5 w5 hown5 hgrow5 hat5
        refine hK _ _ trivial ?_
        clear hK K
        have hb5 : Below wr.heap.size wr w5 := hb0.grown hgrow5 hb0.size (fun k hk => by
          have hk : wr.heap.size = k := by simpa using hk
          omega)
        clear hgrow5 hat5 hE0 hb0
        refine wpSeq_do (List.getElem?_toArray.trans rfl) (fun K hK => ?_)
        refine wp_append_any _ _ _ 62 rfl wr.heap.size 3 i0 (.int .i64 0) 1 8 Try.underlying62 hi hz0 hz1 hz2 rfl (by decide) g5 (0 + L) c5 ([] ++ vals L (fun j => E n j)) rfl hown5 ⟨hh, sd, none⟩ (c - (L + 1)) (hcp - (L + 1)) (vals (c - (L + 1)) (fun j => E n (L + 1 + j))) rfl (by rw [vals_len]; omega)
          (vals_at (fun j hj => by rw [hsL (by omega), show ho + (L + 1) + j = ho + (L + 1 + j) by omega]; exact HQ.out w5 hb5 (L + 1 + j) (by omega))) vals_one (by unfold maxLen; omega) (by omega) hb5.size ?_
        intro g6 c6 w6 hown6 hgrow6 hat6
        refine hK _ _ trivial ?_
        clear hK K
        have hg5 : wr.heap.size ≤ g5 := (hown5.lt g5 rfl).1
        have hb6 : Below wr.heap.size wr w6 := hb5.grown hgrow6 hb5.size (fun k hk => by
          have hk : g5 = k := by simpa using hk
          omega)
        rw [show 0 + L + (c - (L + 1)) = c - 1 by omega, List.nil_append, min_row hL] at hown6
        rw [show 0 + L + (c - (L + 1)) = c - 1 by omega]
        have hg6 : wr.heap.size ≤ g6 := (hown6.lt g6 rfl).1
        have hc6 := owns_cap hown6
        have hA6 := ArI.own hown6 (by simp)
        have hs6 : wr.heap.size ≤ w6.heap.size := hb6.size
        clear hown5 hown6 hgrow6 hat6 hb5 hg5
        refine wpSeq_do (List.getElem?_toArray.trans rfl) (fun K hK => ?_)
        go_simp
        refine hK _ _ trivial ?_
        clear hK K
        have hA7 : ∀ o, Below w6.heap.size w6 (w6.alloc o) := fun o => Below.alloc (Below.refl _ _) (Nat.le_refl _) _
        have HRW := Lib.hid (fun o => ((HS.out.below hb6).below (hA7 o)).row)
        refine wpSeq_do (List.getElem?_toArray.trans rfl) (fun K hK => ?_)
        refine wp_append_lies _ _ _ 35 rfl w.heap.size 62 is (.slice none 0 0) 1 24 Try.underlying35 his hs0 hs1 hs2 rfl (by decide) _ _ _ rfl (HRW.out _) ⟨w6.heap.size, 0, none⟩ 1 1 [.slice (some ⟨g6, 0, none⟩) (c - 1) c6] rfl rfl (by intro j u hj; match j, hj with | 0, hj => (simp at hj; subst hj; simp [Addr.add, go_sem])) (by intro u hu; simp at hu; subst hu; rfl) (by omega) (by unfold maxLen; omega) (by omega) (by simp; omega) _ rfl ?_
        intro g8 c8 w8 hown8 hgrow8 hat8 hlt8
        refine hK _ _ trivial ?_
        clear hK K
        have hrowl : ((List.range (c - 1)).map (fun k => E n (sk L k))).length = c - 1 := by simp
        have h8 := HS.out.push hb6 hA6 (by rw [hrowl]; omega) (c9 := c6) (by rw [hrowl]; exact hc6) hwb hg6 (hA7 _) (by rw [hrowl]; exact hown8) hgrow8 hat8 (by simp)
        have e8 : matF (c - 1) (minE E R L) d ++ [(List.range (c - 1)).map (fun k => E n (sk L k))] = matF (c - 1) (minE E R L) (doneR R (n + 1)) := by
          rw [HE.out.1, matF_succ]
          unfold minE
          rw [HE.out.2]
        rw [e8] at h8
        have H8 := Lib.hid h8
        have HB8 := Lib.hid (HB.out.trans H8.out.2)
        clear h8 e8 hown8 hgrow8 hat8 hlt8 HRW hA6 hA7 hb6 hrowl
        refine wpSeq_nil ?_
        simp only [Exit.then]
        go_wp2_with fail
        go_roundw
        case rel => exact ⟨n + 1, _, _, by omega, by go_num, H8.out.1, HB8.out⟩
        case measure => simp [intOf]; omega
    · have hnr : n = r := by omega
      subst hnr
      have e : doneR R n = n - 1 := by unfold doneR; rw [if_neg (by omega)]
      rw [e] at hS
      have HF := Lib.hid (And.intro hS hb)
      clear hS hb
      go_wp2_with fail
      go_ret
      exact ⟨_, _, _, rfl, HF.out⟩
end Go.Proofs.Ytlcmddghppdmgaa
namespace Go.Proofs.Ytlcmddghppdmgaa
set_option linter.unusedVariables false
open Go.RowKit Go.Shelf
/-- a square matrix that can be read; without rows: any empty slice -/
def MatX (w : World) (v : Value) (n : Nat) (E : Nat → Nat → Int) : Prop :=
  (n = 0 ∧ ∃ b cap, v = .slice b 0 cap) ∨ (1 ≤ n ∧ ∃ g off cap, v = .slice (some ⟨g, off, none⟩) n cap ∧ MatC w g off n n E)
theorem RowsW.matX {w : World} {B n : Nat} {u : Value} {F : Nat → Nat → Int} {V : List Value} {H : Nat → Nat} (h : RowsW w B u (matF n F n) V H) (hn : n ≤ 4) : MatX w u n F := by
  obtain ⟨_, _, a, cap, hu, h3⟩ := h.own (by rw [matF_len]; omega)
  rw [matF_len] at hu
  by_cases h0 : n = 0
  · subst h0; exact .inl ⟨rfl, a, cap, hu⟩
  · rcases h3 with h3 | ⟨g, off, H, O, rfl, ho⟩
    · have := congrArg List.length h3
      rw [matF_len] at this
      exact absurd this (by simpa using h0)
    · exact .inr ⟨by omega, g, off, cap, hu, ho.matC (by omega)⟩
theorem minE_0 (E : Nat → Nat → Int) (k : Nat) : minE E 0 k = mnfZ E k := by
  funext i j
  simp [minE, mnfZ, sk]
theorem modd {p : Int} (x : Int) : ∃ d, x % p = x - p * d := ⟨x / p, by have := Int.mul_ediv_add_emod x p; omega⟩
theorem mod_of {p x y d : Int} (h : x = y + p * d) : x % p = y % p := by rw [h, Int.add_mul_emod_self_left]
theorem lap_pos (p a v L : Int) : (a % p + v * (L % p) % p) % p = (a + 1 * (v * L)) % p := by
  obtain ⟨d1, h1⟩ := modd (p := p) a
  obtain ⟨d2, h2⟩ := modd (p := p) (v * (L % p))
  obtain ⟨d3, h3⟩ := modd (p := p) L
  rw [h2, h1, h3]
  exact mod_of (d := -d1 - v * d3 - d2) (by grind)
theorem lap_neg (p a v L : Int) : (a % p + (-(v * (L % p) % p)) % p) % p = (a + -1 * (v * L)) % p := by
  obtain ⟨d1, h1⟩ := modd (p := p) a
  obtain ⟨d2, h2⟩ := modd (p := p) (v * (L % p))
  obtain ⟨d3, h3⟩ := modd (p := p) L
  obtain ⟨d4, h4⟩ := modd (p := p) (-(v * (L % p) % p))
  rw [h4, h2, h1, h3]
  exact mod_of (d := -d1 + v * d3 + d2 - d4) (by grind)
set_option maxRecDepth 100000 in
set_option maxHeartbeats 1000000 in
theorem sExpand (p : Int) (hp : isP p = true) (s : Bool) : ∀ (n : Nat), n ≤ 4 → ∀ (v : Value) (E : Nat → Nat → Int) (w : World), MatX w v n E → (∀ i k, i < n → k < n → 0 ≤ E i k ∧ E i k < p) →
    Calls Try.prog 105 #[.int .i64 p, v, .bool s] w fun e w' => e = .returned (.int .i64 (lapZ s n E % p)) ∧ Below w.heap.size w w'
  | 0, hn, v, E, w, hM, hE => by
    rcases hM with ⟨_, b, cap, rfl⟩ | ⟨h, _⟩
    · have hpb := isP_bd hp
      have HV := Lib.hid (show (1 : Int) = lapZ s 0 E % p from by
        rw [lapZ, Int.emod_eq_of_lt (by omega) (by omega)])
      clear hE hp hpb
      go_enter Try.func105, Try.ntmps105
      go_wp2_with fail
      go_ret
      exact ⟨ret_int HV.out, Below.refl _ _⟩
    · omega
  | n + 1, hn, v, E, w, hM, hE => by
    rcases hM with ⟨h, _⟩ | ⟨_, g, off, cap, rfl, hC⟩
    · omega
    · obtain ⟨hp1, hp2⟩ := isP_bd hp
      have hpn : ¬ p = 0 := by omega
      have HI := Lib.hid (fun k (hk : k < n + 1) w1 (hb : Below w.heap.size w w1) => show Calls Try.prog 165 #[.slice (some ⟨g, off, none⟩) (n + 1) cap, .int .i64 0, .int .i64 k] w1 fun e w' => ∃ u, e = .returned u ∧ Below w1.heap.size w1 w' ∧
          Calls Try.prog 105 #[.int .i64 p, u, .bool s] w' fun e w2 => e = .returned (.int .i64 (lapZ s n (mnfZ E k) % p)) ∧ Below w'.heap.size w' w2 from
        (sMinor g off cap (n + 1) (n + 1) 0 k E w1 (hC.below hb) (by omega) (by omega) (by omega) (by omega) hk).mono fun e w' ⟨u, V, H, he, hR, hb'⟩ =>
          ⟨u, he, hb', sExpand p hp s n (by omega) u (mnfZ E k) w' (by rw [minE_0] at hR; exact hR.matX (by omega)) (fun i j hi hj => by
            have h1 : i + 1 < n + 1 := by omega
            unfold mnfZ
            split
            · exact hE _ _ h1 (by omega)
            · exact hE _ _ h1 (by omega))⟩)
      obtain ⟨hh, o, cp, hcc, q1, q2⟩ := hC.plc (i := 0) (by omega)
      have q0 := q1 w (Below.refl _ _)
      rw [Nat.add_zero] at q0
      have HQ := Lib.hid q2
      have HE := Lib.hid (fun k hk => hE 0 k (by omega) hk)
      have HS0 := Lib.hid (show (0 : Int) = lapS s n E 0 % p from by rw [lapS]; simp)
      obtain ⟨m, hm⟩ : ∃ m, m = n + 1 := ⟨_, rfl⟩
      have HZ := Lib.hid (show lapS s n E m = lapZ s m E from by rw [hm, lapZ])
      rw [← hm] at HI HQ HE q0
      have hm1 : 0 < m := by omega
      have hm0 : ¬ m = 0 := by omega
      have hm0i : ¬ (m : Int) = 0 := by omega
      have hm0b : ((m : Int) == 0) = false := by simpa using hm0
      have hm4 : m ≤ 4 := by omega
      rw [← hm]
      have HP := Lib.hid hp
      clear hE hp hC q1 q2 hcc hm
      go_enter Try.func105, Try.ntmps105
      go_wp2_with fail
      go_loopw [7, 18] (fun t i wr => ∃ k : Nat, k ≤ m ∧ i = .int .i64 k ∧ t = .int .i64 (lapS s n E k % p) ∧ Below w.heap.size w wr) (fun _ i _ => m - (intOf i).toNat)
      case atStart => exact ⟨0, by omega, rfl, by rw [← HS0.out], Below.refl _ _⟩
      case round =>
        obtain ⟨k, hk, rfl, rfl, hb⟩ := hrel
        by_cases hlt : k < m
        · have hltp : (k : Int) < (m : Int) := by omega
          have hk0 : (0 : Int) ≤ (k : Int) := by omega
          have hx := HQ.out wr hb k hlt
          have HI1 := Lib.hid (HI.out k hlt wr hb)
          obtain ⟨hx0, hx1⟩ := HE.out k hlt
          have HNX := Lib.hid (show lapS s n E (k + 1) = lapS s n E k + sgZ s k * (E 0 k * lapZ s n (mnfZ E k)) from by rw [lapS])
          obtain ⟨x, hxe⟩ : ∃ x, x = E 0 k := ⟨_, rfl⟩
          obtain ⟨L, hL⟩ : ∃ L, L = lapZ s n (mnfZ E k) := ⟨_, rfl⟩
          obtain ⟨a, ha⟩ : ∃ a, a = lapS s n E k := ⟨_, rfl⟩
          rw [← hxe] at hx hx0 hx1 HNX
          rw [← hL] at HI1 HNX
          rw [← ha] at HNX ⊢
          obtain ⟨q, hq⟩ : ∃ q, q = L % p := ⟨_, rfl⟩
          obtain ⟨a2, ha2⟩ : ∃ a2, a2 = a % p := ⟨_, rfl⟩
          rw [← hq] at HI1
          rw [← ha2]
          have q0 : 0 ≤ q := by rw [hq]; exact Int.emod_nonneg _ (by omega)
          have q1 : q < p := by rw [hq]; exact Int.emod_lt_of_pos _ (by omega)
          have a0 : 0 ≤ a2 := by rw [ha2]; exact Int.emod_nonneg _ (by omega)
          have a1 : a2 < p := by rw [ha2]; exact Int.emod_lt_of_pos _ (by omega)
          have hxq0 : 0 ≤ x * q := Int.mul_nonneg hx0 q0
          have hxq1 : x * q ≤ 169 := by
            have := Int.mul_le_mul (show x ≤ 13 by omega) (show q ≤ 13 by omega) q0 (by omega)
            omega
          have hw1 : IntKind.i64.wrap (x * q) = x * q := IntWalk.i64_in _ (by omega)
          obtain ⟨y, hy⟩ : ∃ y, y = x * q % p := ⟨_, rfl⟩
          have hw2 : (x * q).tmod p = y := by rw [hy, Int.tmod_eq_emod_of_nonneg hxq0]
          have y0 : 0 ≤ y := by rw [hy]; exact Int.emod_nonneg _ (by omega)
          have y1 : y < p := by rw [hy]; exact Int.emod_lt_of_pos _ (by omega)
          have hw3 : IntKind.i64.wrap y = y := IntWalk.i64_in _ (by omega)
          obtain ⟨z, hz⟩ : ∃ z, z = (a2 + y) % p := ⟨_, rfl⟩
          have hw4 : IntKind.i64.wrap (a2 + y) = a2 + y := IntWalk.i64_in _ (by omega)
          have hw5 : (a2 + y).tmod p = z := by rw [hz, Int.tmod_eq_emod_of_nonneg (by omega)]
          have hw6 : IntKind.i64.wrap z = z := IntWalk.i64_in _ (by have := Int.emod_nonneg (a2 + y) hpn; have := Int.emod_lt_of_pos (a2 + y) (show 0 < p by omega); omega)
          have hwn : IntKind.i64.wrap (-y) = -y := IntWalk.i64_in _ (by omega)
          obtain ⟨y2, hy2⟩ : ∃ y2, y2 = (-y) % p := ⟨_, rfl⟩
          have y20 : 0 ≤ y2 := by rw [hy2]; exact Int.emod_nonneg _ (by omega)
          have y21 : y2 < p := by rw [hy2]; exact Int.emod_lt_of_pos _ (by omega)
          obtain ⟨z2, hz2⟩ : ∃ z2, z2 = (a2 + y2) % p := ⟨_, rfl⟩
          have hv4 : IntKind.i64.wrap (a2 + y2) = a2 + y2 := IntWalk.i64_in _ (by omega)
          have hv5 : (a2 + y2).tmod p = z2 := by rw [hz2, Int.tmod_eq_emod_of_nonneg (by omega)]
          have hv6 : IntKind.i64.wrap z2 = z2 := IntWalk.i64_in _ (by have := Int.emod_nonneg (a2 + y2) hpn; have := Int.emod_lt_of_pos (a2 + y2) (show 0 < p by omega); omega)
          have HPOS := Lib.hid (show z = (a + 1 * (x * L)) % p from by rw [hz, hy, ha2, hq]; exact lap_pos p a x L)
          have HNEG := Lib.hid (show z2 = (a + -1 * (x * L)) % p from by rw [hz2, hy2, hy, ha2, hq]; exact lap_neg p a x L)
          have HSM := Lib.hid (fun w => (by rw [hy2]; exact sMod p (-y) w HP.out : Calls Try.prog 106 #[.int .i64 p, .int .i64 (-y)] w fun e w' => e = .returned (.int .i64 y2) ∧ w = w'))
          have HB := Lib.hid hb
          clear hxe hL ha hq ha2 hy hz hy2 hz2 hb
          cases s
          · have HN := Lib.hid (show z = lapS false n E (k + 1) % p from by rw [HPOS.out, HNX.out]; simp [sgZ])
            clear HPOS HNEG HNX HSM
            go_wp2_with fail
            refine HI1.out.mono ?_
            rintro e w3 ⟨u, rfl, hb3, hX⟩
            have HB3 := Lib.hid (HB.out.trans (hb3.mono HB.out.size))
            have HX := Lib.hid hX
            clear hb3 hX
            go_wp2_with fail
            refine HX.out.mono ?_
            rintro e w4 ⟨rfl, hb4⟩
            have HB4 := Lib.hid (HB3.out.trans (hb4.mono HB3.out.size))
            clear hb4
            go_wp2_with fail
            go_roundw
            case rel => exact ⟨k + 1, by omega, by go_num, by rw [HN.out], HB4.out⟩
            case measure => simp [intOf]; omega
          · by_cases ho : k % 2 = 1
            · have r1 : (k : Int).tmod 2 = 1 := by rw [show (2 : Int) = ((2 : Nat) : Int) from rfl, ← Int.ofNat_tmod]; omega
              have r2 : (k : Int) % 2 = 1 := by omega
              have HN := Lib.hid (show z2 = lapS true n E (k + 1) % p from by rw [HNEG.out, HNX.out]; simp [sgZ, ho])
              clear HPOS HNEG HNX
              go_wp2_with fail
              refine HI1.out.mono ?_
              rintro e w3 ⟨u, rfl, hb3, hX⟩
              have HB3 := Lib.hid (HB.out.trans (hb3.mono HB.out.size))
              have HX := Lib.hid hX
              clear hb3 hX
              go_wp2_with fail
              refine HX.out.mono ?_
              rintro e w4 ⟨rfl, hb4⟩
              have HB4 := Lib.hid (HB3.out.trans (hb4.mono HB3.out.size))
              clear hb4
              go_wp2_with fail
              refine (HSM.out _).mono ?_
              rintro e w5 ⟨rfl, rfl⟩
              go_wp2_with fail
              go_roundw
              case rel => exact ⟨k + 1, by omega, by go_num, by rw [HN.out], HB4.out⟩
              case measure => simp [intOf]; omega
            · have r1 : (k : Int).tmod 2 = 0 := by rw [show (2 : Int) = ((2 : Nat) : Int) from rfl, ← Int.ofNat_tmod]; omega
              have r2 : (k : Int) % 2 = 0 := by omega
              have HN := Lib.hid (show z = lapS true n E (k + 1) % p from by rw [HPOS.out, HNX.out]; simp [sgZ, ho])
              clear HPOS HNEG HNX HSM
              go_wp2_with fail
              refine HI1.out.mono ?_
              rintro e w3 ⟨u, rfl, hb3, hX⟩
              have HB3 := Lib.hid (HB.out.trans (hb3.mono HB.out.size))
              have HX := Lib.hid hX
              clear hb3 hX
              go_wp2_with fail
              refine HX.out.mono ?_
              rintro e w4 ⟨rfl, hb4⟩
              have HB4 := Lib.hid (HB3.out.trans (hb4.mono HB3.out.size))
              clear hb4
              go_wp2_with fail
              go_roundw
              case rel => exact ⟨k + 1, by omega, by go_num, by rw [HN.out], HB4.out⟩
              case measure => simp [intOf]; omega
        · have hkm : k = m := by omega
          subst hkm
          have HV := Lib.hid (show lapS s n E k % p = lapZ s k E % p from by rw [HZ.out])
          go_wp2_with fail
          go_ret
          exact ⟨ret_int HV.out, hb⟩
end Go.Proofs.Ytlcmddghppdmgaa
