/-
  Rows of elements of a field: how they read, how they are made, their copies. Conditions: none.
  The program's lines: 0 beside an element, lines of numbers, numbers of lines. Conditions: what the slices hold is known.
  The program's lines: zeros at the end cut off, sum, opposite. Conditions: what the slices hold is known.
-/
import Derived.Test.YtfmpcniehgipfaaBf2
import Derived.Test.YtfmpcniehgipfaaBf8
import Derived.Test.YtfmpcniehgipfaaBf3
import Derived.Lib.LazyBuf
import Derived.Deep.AppendLies
import Derived.Test.YtfmpcniehgipfaaBf4
namespace Go.Proofs.Ytfmpcniehgipfaa
set_option linter.unusedVariables false
open Go.RowKit
theorem infoE : (Try.prog.info? 61).map (fun i => (i.zero, i.size, i.bytes)) = some (some (.agg #[.int .i64 0, .int .i64 0]), 2, 16) := by kernel_rfl
@[go_sem] theorem method_plus (w : World) (a b : Value) : (method 261 61 (.agg #[a, b]) "loop.example/polycircuits/impl.plus").run Try.prog w = .ok (87, .agg #[a, b]) w := by kernel_rfl
@[go_sem] theorem method_times (w : World) (a b : Value) : (method 261 61 (.agg #[a, b]) "loop.example/polycircuits/impl.times").run Try.prog w = .ok (89, .agg #[a, b]) w := by kernel_rfl
@[go_sem] theorem method_minus (w : World) (a b : Value) : (method 261 61 (.agg #[a, b]) "loop.example/polycircuits/impl.minus").run Try.prog w = .ok (88, .agg #[a, b]) w := by kernel_rfl
@[go_sem] theorem method_inverse (w : World) (a b : Value) : (method 261 61 (.agg #[a, b]) "loop.example/polycircuits/impl.inverse").run Try.prog w = .ok (86, .agg #[a, b]) w := by kernel_rfl
/-- the cells of a list of elements -/
def flatE (p : Int) : List Int → List Value
  | [] => []
  | x :: r => .int .i64 p :: .int .i64 x :: flatE p r
theorem flatE_len (p : Int) : ∀ L : List Int, (flatE p L).length = L.length * 2
  | [] => rfl
  | x :: r => by simp [flatE, flatE_len p r]; omega
theorem flatE_app (p : Int) : ∀ A B : List Int, flatE p (A ++ B) = flatE p A ++ flatE p B
  | [], _ => rfl
  | x :: r, B => by simp [flatE, flatE_app p r B]
theorem flatE_0 (p : Int) : ∀ (L : List Int) (j : Nat), j < L.length → (flatE p L)[j * 2]? = some (.int .i64 p)
  | [], j, h => by simp at h
  | x :: r, 0, _ => rfl
  | x :: r, j + 1, h => by
    rw [show (j + 1) * 2 = j * 2 + 1 + 1 by omega]
    simp only [flatE, List.getElem?_cons_succ]
    exact flatE_0 p r j (by simpa using h)
theorem flatE_1 (p : Int) : ∀ (L : List Int) (j : Nat), j < L.length → (flatE p L)[j * 2 + 1]? = some (.int .i64 (cf L j))
  | [], j, h => by simp at h
  | x :: r, 0, _ => rfl
  | x :: r, j + 1, h => by
    rw [show (j + 1) * 2 + 1 = j * 2 + 1 + 1 + 1 by omega]
    simp only [flatE, List.getElem?_cons_succ]
    exact flatE_1 p r j (by simpa using h)
theorem flatE_cell (p : Int) : ∀ (L : List Int) (u : Value), u ∈ flatE p L → u.oneCell' = true
  | [], u, h => by simp [flatE] at h
  | x :: r, u, h => by
    simp [flatE] at h
    rcases h with rfl | rfl | h
    · rfl
    · rfl
    · exact flatE_cell p r u h
theorem flatE_set (p : Int) : ∀ (L : List Int) (j : Nat) (y : Int), j < L.length → ((flatE p L).set (j * 2) (.int .i64 p)).set (j * 2 + 1) (.int .i64 y) = flatE p (L.set j y)
  | [], j, y, h => by simp at h
  | x :: r, 0, y, _ => rfl
  | x :: r, j + 1, y, h => by
    rw [show (j + 1) * 2 + 1 = (j * 2 + 1) + 1 + 1 by omega, show (j + 1) * 2 = j * 2 + 1 + 1 by omega]
    simp only [flatE, List.set_cons_succ]
    rw [flatE_set p r j y (by simpa using h)]
/-- a slice that reads as a list of elements -/
def Elr (w : World) (v : Value) (p : Int) (L : List Int) : Prop :=
  L.length ≤ 1048576 ∧ ∃ a cap, v = .slice a L.length cap ∧ (L.length ≤ cap ∧ cap ≤ maxLen) ∧ ((a = none ∧ cap = 0 ∧ L = []) ∨ ∃ g off, a = some ⟨g, off, none⟩ ∧ g < w.heap.size ∧ ∀ j, j < L.length → w.cell? ⟨g, off + j * 2, none⟩ = some (.int .i64 p) ∧ w.cell? ⟨g, off + j * 2 + 1, none⟩ = some (.int .i64 (cf L j)))
theorem Elr.below {w w' : World} {v : Value} {p : Int} {L : List Int} (h : Elr w v p L) (hb : Below w.heap.size w w') : Elr w' v p L := by
  obtain ⟨h1, a, cap, hv, hk, h2⟩ := h
  refine ⟨h1, a, cap, hv, hk, ?_⟩
  rcases h2 with h2 | ⟨g, off, ha, hg, hc⟩
  · exact .inl h2
  · refine .inr ⟨g, off, ha, Nat.lt_of_lt_of_le hg hb.size, fun j hj => ?_⟩
    rw [hb.cell (p := ⟨g, off + j * 2, none⟩) hg, hb.cell (p := ⟨g, off + j * 2 + 1, none⟩) hg]
    exact hc j hj
theorem Elr.some {w : World} {v : Value} {p : Int} {L : List Int} (h : Elr w v p L) (hL : 0 < L.length) : ∃ g off cap, v = .slice (some ⟨g, off, none⟩) L.length cap ∧ (L.length ≤ cap ∧ cap ≤ maxLen) ∧ g < w.heap.size ∧ ∀ j, j < L.length → w.cell? ⟨g, off + j * 2, none⟩ = some (.int .i64 p) ∧ w.cell? ⟨g, off + j * 2 + 1, none⟩ = some (.int .i64 (cf L j)) := by
  obtain ⟨_, a, cap, hv, hk, h2⟩ := h
  rcases h2 with ⟨_, _, h2⟩ | ⟨g, off, ha, hg, hc⟩
  · rw [h2] at hL; simp at hL
  · exact ⟨g, off, cap, by rw [hv, ha], hk, hg, hc⟩
theorem Elr.form {w : World} {v : Value} {p : Int} {L : List Int} (h : Elr w v p L) : ∃ a cap, v = .slice a L.length cap := by
  obtain ⟨_, a, cap, hv, _⟩ := h
  exact ⟨a, cap, hv⟩
/-- a row of elements of the call's own -/
def RowE (w : World) (B : Nat) (v : Value) (p : Int) (L : List Int) : Prop := w.ownsRow B 61 2 v L.length (flatE p L)
theorem RowE.below {w w1 : World} {B : Nat} {v : Value} {p : Int} {L : List Int} (h : RowE w B v p L) (hb : Below w.heap.size w w1) : RowE w1 B v p L :=
  World.ownsRow.kept (row := none) h ⟨hb.os, hb.tape, hb.output, hb.size, fun k hk _ => hb.block k hk⟩ (by cases v.ownBlock <;> simp)
theorem RowE.nil (w : World) (B : Nat) (p : Int) : RowE w B (.slice none 0 0) p [] := World.ownsRow_nil _ _ _ _
theorem RowE.shape {w : World} {B : Nat} {v : Value} {p : Int} {L : List Int} (h : RowE w B v p L) :
    (v = .slice none 0 0 ∧ L = []) ∨ ∃ g cap, v = .slice (some ⟨g, 0, none⟩) L.length cap ∧ B ≤ g ∧ g < w.heap.size ∧ L.length ≤ cap ∧ cap ≤ maxLen := by
  rcases h.2 with ⟨h1, h2⟩ | ⟨g, cap, cur, rfl, hb, hg, hn, hm, _⟩
  · exact .inl ⟨h1, List.length_eq_zero_iff.1 h2⟩
  · exact .inr ⟨g, cap, rfl, hb, (Array.getElem?_eq_some_iff.1 hg).1, hn, hm⟩
theorem RowE.cells {w : World} {B g cap : Nat} {p : Int} {L : List Int} (h : RowE w B (.slice (some ⟨g, 0, none⟩) L.length cap) p L) {j : Nat} (hj : j < L.length) :
    w.cell? ⟨g, j * 2, none⟩ = some (.int .i64 p) ∧ w.cell? ⟨g, j * 2 + 1, none⟩ = some (.int .i64 (cf L j)) :=
  ⟨by rw [World.ownsRow.cellAt h (j * 2) (by omega), flatE_0 p L j hj], by rw [World.ownsRow.cellAt h (j * 2 + 1) (by omega), flatE_1 p L j hj]⟩
theorem RowE.elr {w : World} {B : Nat} {v : Value} {p : Int} {L : List Int} (h : RowE w B v p L) (hl : L.length ≤ 1048576) : Elr w v p L := by
  rcases h.shape with ⟨rfl, rfl⟩ | ⟨g, cap, rfl, hb, hg, hn, hm⟩
  · exact ⟨by simp, none, 0, rfl, ⟨by simp, by unfold maxLen; omega⟩, .inl ⟨rfl, rfl, rfl⟩⟩
  · exact ⟨hl, _, cap, rfl, ⟨hn, hm⟩, .inr ⟨g, 0, rfl, hg, fun j hj => by rw [Nat.zero_add]; exact h.cells hj⟩⟩
theorem RowE.base {w : World} {B B' : Nat} {v : Value} {p : Int} {L : List Int} (h : RowE w B v p L) (hb : B' ≤ B) : RowE w B' v p L := by
  obtain ⟨h1, h2⟩ := h
  refine ⟨h1, ?_⟩
  rcases h2 with h2 | ⟨g, cap, cur, hv, hg, r⟩
  · exact .inl h2
  · exact .inr ⟨g, cap, cur, hv, Nat.le_trans hb hg, r⟩
/-- an element is laid anew -/
theorem RowE.set {w : World} {B g cap : Nat} {p : Int} {L : List Int} (h : RowE w B (.slice (some ⟨g, 0, none⟩) L.length cap) p L) {j : Nat} (hj : j < L.length) (y : Int) :
    RowE ((w.setCell ⟨g, j * 2, none⟩ (.int .i64 p)).setCell ⟨g, j * 2 + 1, none⟩ (.int .i64 y)) B (.slice (some ⟨g, 0, none⟩) L.length cap) p (L.set j y) := by
  have h1 := (World.ownsRow.stored h (j * 2) (.int .i64 p)).1
  have h2 := (World.ownsRow.stored h1 (j * 2 + 1) (.int .i64 y)).1
  rw [flatE_set p L j y hj] at h2
  unfold RowE
  rw [List.length_set]
  exact h2
/-- what an append of one element leaves -/
theorem rowE_snoc {w : World} {B : Nat} {v : Value} {p y : Int} {L : List Int} (h : w.ownsRow B 61 2 v (L.length + 1) (flatE p L ++ [.int .i64 p, .int .i64 y])) : RowE w B v p (L ++ [y]) := by
  unfold RowE
  rw [List.length_append, flatE_app]
  exact h
theorem RowE.low {w w' : World} {B : Nat} {v : Value} {p : Int} {L : List Int} (h : RowE w B v p L) (hb : B ≤ w.heap.size) (hg : w.grownBy w' v.ownBlock) : Below B w w' :=
  ⟨hg.os, hg.tape, hg.output, hg.size, fun k hk => hg.block k (by omega) (fun e => by have := (World.ownsRow.lt h k e.symm).1; omega)⟩
/-- a call hands back a new line -/
def GivesE (p : Int) (L : List Int) (w : World) (e : Ending) (w' : World) : Prop := ∃ v, e = .returned v ∧ Elr w' v p L ∧ Below w.heap.size w w'
set_option maxRecDepth 100000 in
theorem iCloneEn (w : World) : Calls Try.prog 119 #[.slice none 0 0] w fun e w' => e = .returned (.slice none 0 0) ∧ w = w' := by
  have hcmp := fun (W : World) => Go.run_eql_slice_nil (P := Try.prog) W 63 61 none 0 0 Try.underlying63
  go_enter Try.func119, Try.ntmps119
  go_wp2
  go_ret
  exact ⟨rfl, rfl⟩
set_option maxRecDepth 100000 in
set_option maxHeartbeats 2000000 in
theorem iCloneEs (p : Int) (g off cap : Nat) (L : List Int) (w : World) (hl : L.length ≤ 1048576) (hg : g < w.heap.size) (hc : ∀ j, j < L.length → w.cell? ⟨g, off + j * 2, none⟩ = some (.int .i64 p) ∧ w.cell? ⟨g, off + j * 2 + 1, none⟩ = some (.int .i64 (cf L j))) :
    Calls Try.prog 119 #[.slice (some ⟨g, off, none⟩) L.length cap] w fun e w' => ∃ u, e = .returned u ∧ RowE w' w.heap.size u p L ∧ Below w.heap.size w w' := by
  obtain ⟨i0, hi, hz0, hz1, hz2⟩ := info_parts infoE
  have HN := Lib.hid (show ∀ j u, (flatE p L)[j]? = some u → (w.alloc (Obj.cells #[] 61)).cell? ((⟨g, off, none⟩ : Addr).add j) = some u from by
    intro j u hj
    have hjl : j < L.length * 2 := by
      have := (List.getElem?_eq_some_iff.1 hj).1
      rwa [flatE_len] at this
    have hadd : (⟨g, off, none⟩ : Addr).add j = ⟨g, off + j, none⟩ := by unfold Addr.add; split <;> simp_all
    rw [hadd, World.cell?_alloc_past _ _ _ hg]
    obtain ⟨c0, c1⟩ := hc (j / 2) (by omega)
    rcases Nat.mod_two_eq_zero_or_one j with hm | hm
    · rw [show j = j / 2 * 2 by omega, c0]
      rw [show j = j / 2 * 2 by omega, flatE_0 p L _ (by omega)] at hj
      exact hj
    · rw [show off + j = off + j / 2 * 2 + 1 by omega, c1]
      rw [show j = j / 2 * 2 + 1 by omega, flatE_1 p L _ (by omega)] at hj
      exact hj)
  have HE := Lib.hid (show (w.alloc (Obj.cells #[] 61)).ownsRow w.heap.size 61 2 (.slice (some ⟨w.heap.size, 0, none⟩) 0 0) 0 [] from World.ownsRow_lit (size := 2) w #[] 0 (Nat.le_refl _) (by unfold maxLen; omega) rfl)
  have HO := Lib.hid (fun u (hu : u ∈ flatE p L) => flatE_cell p L u hu)
  obtain ⟨m, hm⟩ : ∃ m, m = L.length := ⟨_, rfl⟩
  have HM := Lib.hid hm
  rw [← hm] at hl ⊢
  have hcmp := fun (W : World) => Go.run_eql_slice_nil (P := Try.prog) W 63 61 (some ⟨g, off, none⟩) m cap Try.underlying63
  clear hc hm
  by_cases h0 : m = 0
  · subst h0
    have HL0 := Lib.hid (List.length_eq_zero_iff.1 HM.out.symm)
    go_enter Try.func119, Try.ntmps119
    have HF := Lib.hid (show RowE (w.alloc (Obj.cells #[] 61)) w.heap.size (.slice (some ⟨w.heap.size, 0, none⟩) 0 0) p L ∧ Below w.heap.size w (w.alloc (Obj.cells #[] 61)) from ⟨by unfold RowE; rw [HL0.out]; exact HE.out, Below.alloc (Below.refl _ _) (Nat.le_refl _) _⟩)
    clear HE HN HO
    go_wp2
    go_ret
    exact ⟨_, rfl, HF.out⟩
  · have hpos : 0 < m := by omega
    go_enter Try.func119, Try.ntmps119
    go_wp2_with (at_builtin; refine wpList_append_lies _ rfl _ _ 63 rfl w.heap.size 61 i0 (.agg #[.int .i64 0, .int .i64 0]) 2 16 Try.underlying63 hi hz0 hz1 hz2 rfl (by decide) _ _ _ rfl HE.out ⟨g, off, none⟩ m cap (flatE p L) rfl (by rw [HM.out]; exact flatE_len p L) HN.out HO.out (by omega) (by unfold maxLen; omega) (by omega) (by simp) _ rfl ?_)
    intro g5 c5 w5 hown5 hgrow5 hat5 hlt5
    have hb5 : Below w.heap.size w w5 := (Below.alloc (Below.refl w.heap.size w) (Nat.le_refl _) _).grown hgrow5 (by simp) (fun k hk => by
      have hk : w.heap.size = k := by simpa [Value.ownBlock] using hk
      omega)
    have HF := Lib.hid (show RowE w5 w.heap.size (.slice (some ⟨g5, 0, none⟩) m c5) p L ∧ Below w.heap.size w w5 from ⟨by unfold RowE; rw [← HM.out]; simpa using hown5, hb5⟩)
    clear hown5 hgrow5 hat5 hlt5 hb5 HE HN HO
    go_wp2
    go_ret
    exact ⟨_, rfl, HF.out⟩
theorem iCloneE (p : Int) (v : Value) (L : List Int) (w : World) (h : Elr w v p L) :
    Calls Try.prog 119 #[v] w fun e w' => ∃ u, e = .returned u ∧ RowE w' w.heap.size u p L ∧ Below w.heap.size w w' := by
  obtain ⟨h1, a, cap, rfl, _, ⟨rfl, rfl, rfl⟩ | ⟨g, off, rfl, hg, hc⟩⟩ := h
  · exact (iCloneEn w).mono fun e w' ⟨he, hw⟩ => ⟨_, he, hw ▸ RowE.nil w _ _, hw ▸ Below.refl _ _⟩
  · exact iCloneEs p g off cap L w h1 hg hc
end Go.Proofs.Ytfmpcniehgipfaa
namespace Go.Proofs.Ytfmpcniehgipfaa
set_option linter.unusedVariables false
open Go.RowKit
theorem neg_add (p a : Int) (hp : 1 < p) : (a + (-a) % p) % p = 0 := by
  have h := ((Cg.refl p a).add (Cg.mod p (-a))).emod
  rw [h, Int.add_right_neg, Int.zero_emod]
set_option maxHeartbeats 1000000 in
theorem iZero (p a : Int) (hp0 : isP p = true) (ha0 : 0 ≤ a) (ha1 : a < p) (w : World) :
    Calls Try.prog 116 #[(.agg #[.int .i64 (p), .int .i64 (a)])] w fun e w' => e = .returned ((.agg #[.int .i64 (p), .int .i64 (0)])) ∧ Below w.heap.size w w' := by
  have hp := Lib.hid hp0
  obtain ⟨q1, q2⟩ := isP_bd hp0
  have HZ := Lib.hid (neg_add p a (by omega))
  obtain ⟨b, hb⟩ : ∃ b, b = (-a) % p := ⟨_, rfl⟩
  have hb0 : 0 ≤ b := by rw [hb]; exact Int.emod_nonneg _ (by omega)
  have hb1 : b < p := by rw [hb]; exact Int.emod_lt_of_pos _ (by omega)
  rw [← hb] at HZ
  have HM := Lib.hid (fun w => iMinus p a hp.out ha0 ha1 w)
  rw [← hb] at HM
  have HP := Lib.hid (fun w => iPlus p a b hp.out ha0 ha1 hb0 hb1 w)
  rw [HZ.out] at HP
  clear hp0 hb
  go_enter Try.func116, Try.ntmps116
  go_wp2_with fail
  obtain ⟨W, hW⟩ : ∃ W, W = ((w.alloc (Obj.cells #[Value.int IntKind.i64 p, Value.int IntKind.i64 a] 61)).alloc (Obj.cells #[Value.int IntKind.i64 0, Value.int IntKind.i64 0] 61)) := ⟨_, rfl⟩
  have hs : W.heap.size = w.heap.size + 2 := by rw [hW]; simp
  have HS := Lib.hid (fun w' (hb : Below W.heap.size W w') => show w'.cell? ⟨w.heap.size, 0, none⟩ = some (.int .i64 p) ∧ w'.cell? ⟨w.heap.size, 1, none⟩ = some (.int .i64 a) from
    ⟨by rw [hb.cell (p := ⟨w.heap.size, 0, none⟩) (by show w.heap.size < _; omega), hW]; simp [go_sem], by rw [hb.cell (p := ⟨w.heap.size, 1, none⟩) (by show w.heap.size < _; omega), hW]; simp [go_sem]⟩)
  have HT := Lib.hid (fun w' (hb : Below W.heap.size W w') => show w'.cell? ⟨w.heap.size + 1, 0, none⟩ = some (.int .i64 0) ∧ w'.cell? ⟨w.heap.size + 1, 1, none⟩ = some (.int .i64 0) ∧ w'.frozen? ⟨w.heap.size + 1, 0, none⟩ = false ∧ w'.frozen? ⟨w.heap.size + 1, 1, none⟩ = false from
    ⟨by rw [hb.cell (p := ⟨w.heap.size + 1, 0, none⟩) (by show w.heap.size + 1 < _; omega), hW]; simp [go_sem], by rw [hb.cell (p := ⟨w.heap.size + 1, 1, none⟩) (by show w.heap.size + 1 < _; omega), hW]; simp [go_sem],
     by rw [hb.frozen (p := ⟨w.heap.size + 1, 0, none⟩) (by show w.heap.size + 1 < _; omega), hW]; simp [go_sem], by rw [hb.frozen (p := ⟨w.heap.size + 1, 1, none⟩) (by show w.heap.size + 1 < _; omega), hW]; simp [go_sem]⟩)
  have HB := Lib.hid (show Below w.heap.size w W by rw [hW]; exact (by repeat (first | exact Below.refl _ _ | apply Below.drew | apply below_drewN | (refine Below.alloc ?_ (by first | omega | (simp <;> omega)) _))))
  rw [← hW]
  clear hW hs
  refine wp_region_seq [(0, true), (1, true), (2, true), (3, true), (4, false), (5, false)] (fun w' => w'.cell? ⟨w.heap.size, 0, none⟩ = some (.int .i64 p) ∧ w'.cell? ⟨w.heap.size, 1, none⟩ = some (.int .i64 a)) (by kernel_rfl) (by kernel_rfl) rfl (by intro c a d v w h; cases d <;> exact h) (HS.out _ (Below.drew (Below.refl _ _))) ?_
  iterate 4 (refine wpSeq_take (v := ?_) (List.getElem?_toArray.trans rfl) ?_ ?_; rotate_left; (intro w' hSw; (try dsimp only at hSw); go_simp; (try with_reducible rfl)); (try simp only [Act.put, List.setIfInBounds_toArray, List.set_cons_zero, List.set_cons_succ]))
  refine wpSeq_do (List.getElem?_toArray.trans rfl) (fun K hK => ?_)
  go_simp
  refine (HM.out _).mono ?_
  rintro e w1 ⟨rfl, hb1⟩
  have HB1 := Lib.hid (show Below W.heap.size W w1 from (Below.drew (Below.refl _ W)).trans (hb1.mono (by simp)))
  clear hb1
  refine hK _ _ (HS.out _ HB1.out) ?_
  clear hK K
  refine wpSeq_do (List.getElem?_toArray.trans rfl) (fun K hK => ?_)
  go_simp
  refine (HP.out _).mono ?_
  rintro e w2 ⟨rfl, hb2⟩
  have HB2 := Lib.hid (show Below W.heap.size W w2 from HB1.out.trans (hb2.mono HB1.out.size))
  clear hb2
  refine hK _ _ (HS.out _ HB2.out) ?_
  clear hK K
  refine wpSeq_nil ?_
  simp only [Exit.then]
  obtain ⟨t0, t1, t2, t3⟩ := HT.out _ HB2.out
  go_wp2_with fail
  obtain ⟨q0, q1⟩ := two_set (y0 := .int .i64 p) (y1 := .int .i64 0) t0 t1
  refine bodyPost_ret (v := (.agg #[.int .i64 (p), .int .i64 (0)])) (by simp [results, Try.results116, go_sem, q0, q1]) rfl ⟨rfl, ?_⟩
  exact ((HB.out.trans (HB2.out.mono HB.out.size)).setCell (by show w.heap.size ≤ w.heap.size + 1; omega) _).setCell (by show w.heap.size ≤ w.heap.size + 1; omega) _
/-- the one element of a new slice -/
theorem new_el (w : World) (p n : Int) (T : TypeId) : ∀ (j : Nat) (u : Value), [Value.int .i64 p, .int .i64 n][j]? = some u → (w.alloc (Obj.cells #[.int .i64 p, .int .i64 n] T)).cell? ((⟨w.heap.size, 0, none⟩ : Addr).add j) = some u := by
  intro j u hj
  match j, hj with
  | 0, hj => simp at hj; subst hj; simp [Addr.add]
  | 1, hj => simp at hj; subst hj; simp [Addr.add]
theorem el_ok (p n : Int) : ∀ u : Value, u ∈ [Value.int .i64 p, .int .i64 n] → u.oneCell' = true := by
  intro u hu; simp at hu; rcases hu with rfl | rfl <;> rfl
set_option maxRecDepth 100000 in
set_option maxHeartbeats 2000000 in
theorem iLineOf (p : Int) (v : Value) (L : List Int) (w : World) (h : Ints w v L) (hl : L.length ≤ 1000) :
    Calls Try.prog 69 #[.int .i64 p, v] w fun e w' => ∃ u, e = .returned u ∧ RowE w' w.heap.size u p L ∧ Below w.heap.size w w' := by
  obtain ⟨i0, hi, hz0, hz1, hz2⟩ := info_parts infoE
  obtain ⟨_, a, cap, rfl, hd⟩ := h
  have HD := Lib.hid hd
  clear hd
  go_enter Try.func69, Try.ntmps69
  go_wp2_with fail
  go_loopw [5, 10] (fun f i wr => ∃ k : Nat, k ≤ L.length ∧ i = .int .i64 k ∧ RowE wr w.heap.size f p (L.take k) ∧ Below w.heap.size w wr) (fun _ i _ => L.length - (intOf i).toNat)
  case atStart => exact ⟨0, by omega, rfl, RowE.nil _ _ _, Below.refl _ _⟩
  case round =>
    obtain ⟨k, hk, rfl, hf, hb⟩ := hrel
    by_cases hkl : k < L.length
    · rcases HD.out with h0 | ⟨g, off, rfl, hg, hc⟩
      · rw [h0] at hkl; simp at hkl
      have hkI : (k : Int) < (L.length : Int) := by omega
      have hk0 : (0 : Int) ≤ (k : Int) := by omega
      have HX := Lib.hid (show L.take (k + 1) = L.take k ++ [L.getD k 0] by rw [List.take_succ_eq_append_getElem hkl]; simp [hkl])
      have HL := Lib.hid (show (L.take k).length = k by rw [List.length_take]; omega)
      obtain ⟨x, hx⟩ : ∃ x, x = L.getD k 0 := ⟨_, rfl⟩
      have hck : wr.cell? ⟨g, off + k, none⟩ = some (.int .i64 x) := by rw [hx]; exact (hb.cell (p := ⟨g, off + k, none⟩) hg).trans (hc k hkl)
      rw [← hx] at HX
      obtain ⟨M, hM⟩ : ∃ M, M = L.take k := ⟨_, rfl⟩
      rw [← hM] at HX HL hf
      have HF := Lib.hid hf
      have HB := Lib.hid hb
      have hln := Lib.hid (show M.length ≤ 1000 from by rw [HL.out]; omega)
      clear hx hc hf hb hM
      go_wp2_with (at_builtin; refine wpList_append_own _ rfl _ _ 63 rfl w.heap.size 61 i0 (.agg #[.int .i64 0, .int .i64 0]) 2 16 Try.underlying63 hi hz0 hz1 hz2 rfl (by decide) _ _ _ rfl (RowE.below HF.out (Below.alloc (Below.refl _ _) (Nat.le_refl _) _)) _ 1 1 [.int .i64 p, .int .i64 x] rfl rfl (new_el _ _ _ _) (el_ok _ _) (by unfold maxLen; have := hln.out; omega) (by have := hln.out; omega) (by first | omega | (have := HB.out.size; simp; omega)) ?_)
      intro v5 w5 hown5 hgrow5 _
      have hr5 : RowE w5 w.heap.size v5 p (M ++ [x]) := rowE_snoc hown5
      have hB1 : Below w.heap.size w (wr.alloc (Obj.cells #[.int .i64 p, .int .i64 x] 61)) := Below.alloc HB.out HB.out.size _
      have hz5 : w.heap.size ≤ (wr.alloc (Obj.cells #[.int .i64 p, .int .i64 x] 61)).heap.size := hB1.size
      have hb5 : Below w.heap.size w w5 := hB1.trans (RowE.low (HF.out.below (Below.alloc (Below.refl _ _) (Nat.le_refl _) _)) hz5 hgrow5)
      rw [← HX.out] at hr5
      have H5 := Lib.hid (And.intro hr5 hb5)
      clear hr5 hB1 hz5 hb5 hown5 hgrow5
      go_wp2_with fail
      go_roundw
      case rel => exact ⟨k + 1, by omega, by go_num, H5.out⟩
      case measure => simp [intOf]; omega
    · have hkl2 : k = L.length := by omega
      subst hkl2
      rw [List.take_length] at hf
      have HF := Lib.hid (And.intro hf hb)
      clear hf hb
      go_wp2_with fail
      go_ret
      exact ⟨_, rfl, HF.out⟩
set_option maxRecDepth 100000 in
set_option maxHeartbeats 2000000 in
theorem iNumbersOf (p : Int) (v : Value) (L : List Int) (w : World) (h : Elr w v p L) (hl : L.length ≤ 1000) :
    Calls Try.prog 73 #[v] w fun e w' => ∃ u, e = .returned u ∧ RowN w' w.heap.size u L ∧ Below w.heap.size w w' := by
  obtain ⟨i0, hi, hz0, hz1, hz2⟩ := info_parts infoN
  obtain ⟨_, a, cap, rfl, hkk, hd⟩ := h
  have HD := Lib.hid hd
  clear hd hkk
  go_enter Try.func73, Try.ntmps73
  go_wp2_with fail
  go_loopw [3, 8] (fun f i wr => ∃ k : Nat, k ≤ L.length ∧ i = .int .i64 k ∧ RowN wr w.heap.size f (L.take k) ∧ Below w.heap.size w wr) (fun _ i _ => L.length - (intOf i).toNat)
  case atStart => exact ⟨0, by omega, rfl, RowN.nil _ _, Below.refl _ _⟩
  case round =>
    obtain ⟨k, hk, rfl, hf, hb⟩ := hrel
    by_cases hkl : k < L.length
    · rcases HD.out with ⟨_, _, h0⟩ | ⟨g, off, rfl, hg, hc⟩
      · rw [h0] at hkl; simp at hkl
      have hkI : (k : Int) < (L.length : Int) := by omega
      have hk0 : (0 : Int) ≤ (k : Int) := by omega
      have HX := Lib.hid (show L.take (k + 1) = L.take k ++ [cf L k] by rw [List.take_succ_eq_append_getElem hkl]; simp [cf, hkl])
      have HL := Lib.hid (show (L.take k).length = k by rw [List.length_take]; omega)
      obtain ⟨x, hx⟩ : ∃ x, x = cf L k := ⟨_, rfl⟩
      have hck : wr.cell? ⟨g, off + k * 2, none⟩ = some (.int .i64 p) := (hb.cell (p := ⟨g, off + k * 2, none⟩) hg).trans (hc k hkl).1
      have hck1 : wr.cell? ⟨g, off + k * 2 + 1, none⟩ = some (.int .i64 x) := by rw [hx]; exact (hb.cell (p := ⟨g, off + k * 2 + 1, none⟩) hg).trans (hc k hkl).2
      rw [← hx] at HX
      obtain ⟨M, hM⟩ : ∃ M, M = L.take k := ⟨_, rfl⟩
      rw [← hM] at HX HL hf
      have HF := Lib.hid hf
      have HB := Lib.hid hb
      have hln := Lib.hid (show M.length ≤ 1000 from by rw [HL.out]; omega)
      have HBB := Lib.hid (show ∀ o1 o2, Below wr.heap.size wr ((wr.alloc o1).alloc o2) from fun o1 o2 => (by repeat (first | exact Below.refl _ _ | apply Below.drew | apply below_drewN | (refine Below.alloc ?_ (by first | omega | (simp <;> omega)) _))))
      clear hx hc hf hb hM
      go_wp2_with (at_builtin; refine wpList_append_own _ rfl _ _ 22 rfl w.heap.size 3 i0 (.int .i64 0) 1 8 Try.underlying22 hi hz0 hz1 hz2 rfl (by decide) _ _ _ rfl (RowN.below HF.out (HBB.out _ _)) _ 1 1 [.int .i64 x] rfl rfl (by intro j u hj; match j, hj with | 0, hj => (simp at hj; subst hj; simp [Addr.add, go_sem])) (by intro u hu; simp at hu; subst hu; rfl) (by unfold maxLen; have := hln.out; omega) (by have := hln.out; omega) (by first | omega | (have := HB.out.size; simp; omega)) ?_)
      intro v5 w5 hown5 hgrow5 _
      have hr5 : RowN w5 w.heap.size v5 (M ++ [x]) := by unfold RowN; simpa using hown5
      have hz5 := HB.out.size
      have hb5 : Below w.heap.size w w5 := by
        have hB1 := HB.out.trans ((HBB.out (Obj.cells #[.int .i64 p, .int .i64 x] 61) (Obj.cells #[.int .i64 x] 3)).mono hz5)
        refine hB1.grown hgrow5 hB1.size (fun j hj => (HF.out.lt j hj).1)
      rw [← HX.out] at hr5
      have H5 := Lib.hid (And.intro hr5 hb5)
      clear hr5 hz5 hb5 hown5 hgrow5
      go_wp2_with fail
      go_roundw
      case rel => exact ⟨k + 1, by omega, by go_num, H5.out⟩
      case measure => simp [intOf]; omega
    · have hkl2 : k = L.length := by omega
      subst hkl2
      rw [List.take_length] at hf
      have HF := Lib.hid (And.intro hf hb)
      clear hf hb
      go_wp2_with fail
      go_ret
      exact ⟨_, rfl, HF.out⟩
end Go.Proofs.Ytfmpcniehgipfaa
namespace Go.Proofs.Ytfmpcniehgipfaa
set_option linter.unusedVariables false
open Go.RowKit
theorem part1e (a b : Int) (w : World) : (part 3 #[.int .i64 a, .int .i64 b] 0).run Try.prog w = .ok (.int .i64 a) w ∧ (part 3 #[.int .i64 a, .int .i64 b] 1).run Try.prog w = .ok (.int .i64 b) w := by
  refine ⟨?_, ?_⟩ <;> simp [part, go_sem]
theorem runEqE (r : Bool) (a b a' b' : Int) (h : (a == a' && b == b') = r) (w : World) : (Op.equalIn 10000 61 (.agg #[.int .i64 a, .int .i64 b]) (.agg #[.int .i64 a', .int .i64 b'])).run Try.prog w = .ok r w := by
  rw [← h, show (10000 : Nat) = 9999 + 1 from rfl,
    run_equalIn_struct w 9999 _ _ _ (by unfold Program.fieldsOf; rw [Try.underlying61]) (by kernel_rfl)]
  unfold Program.fieldsOf
  rw [Try.underlying61]
  have h2 := fun x y w => run_equalIn_int (P := Try.prog) w 9998 3 .i64 .i64 x y Try.underlying3
  simp only [Op.eqFields, Sem.run_bind, Sem.run_ite, part1e, Result.andThen_ok, h2]
  by_cases e1 : a = a' <;> by_cases e2 : b = b' <;> simp [e1, e2, Sem.run_pure]
theorem Elr.take {w : World} {a : Option Addr} {cap : Nat} {p : Int} {L : List Int} {k : Nat} (h : Elr w (.slice a L.length cap) p L) (hk : k ≤ L.length) : Elr w (.slice a k cap) p (L.take k) := by
  obtain ⟨h1, a2, cap2, e, hkk, h2⟩ := h
  simp only [Value.slice.injEq] at e
  obtain ⟨rfl, _, rfl⟩ := e
  have hl : (L.take k).length = k := by rw [List.length_take]; omega
  refine ⟨by omega, a, cap, by rw [hl], by omega, ?_⟩
  rcases h2 with ⟨r1, r2, r3⟩ | ⟨g, off, ha, hg, hc⟩
  · exact .inl ⟨r1, r2, by rw [r3]; simp⟩
  · refine .inr ⟨g, off, ha, hg, fun j hj => ?_⟩
    rw [hl] at hj
    obtain ⟨c0, c1⟩ := hc j (by omega)
    refine ⟨c0, ?_⟩
    rw [c1]
    simp [cf, List.getD_eq_getElem?_getD, hj]
set_option maxRecDepth 100000 in
set_option maxHeartbeats 8000000 in
theorem iTrimmed (p : Int) (v : Value) (L : List Int) (w : World) (hp : isP p = true) (h : Elr w v p L) (hE : AllE p L) (hl : L.length ≤ 1000) :
    Calls Try.prog 90 #[v] w fun e w' => ∃ u, e = .returned u ∧ RowE w' w.heap.size u p (trimL L) ∧ Below w.heap.size w w' := by
  have HP := Lib.hid hp
  have HE := Lib.hid hE
  have HH := Lib.hid h
  obtain ⟨a, cap, rfl⟩ := h.form
  clear hp hE
  go_enter Try.func90, Try.ntmps90
  go_wp2_with fail
  go_loopw [3] (fun i wr => ∃ k : Nat, k ≤ L.length ∧ i = .int .i64 k ∧ (∀ j, k ≤ j → cf L j = 0) ∧ Below w.heap.size w wr) (fun i _ => (intOf i).toNat)
  case atStart => exact ⟨L.length, Nat.le_refl _, rfl, fun j hj => cf_ge hj, Below.refl _ _⟩
  case round =>
    obtain ⟨k, hk, rfl, hz, hb⟩ := hrel
    have HZ := Lib.hid hz
    have HB := Lib.hid hb
    clear hz hb
    have HR := Lib.hid (fun w' (hb : Below w.heap.size w w') => (HH.out.below hb).take hk)
    have hkc : k ≤ cap := by obtain ⟨_, a2, cap2, e, hkk, _⟩ := h; simp only [Value.slice.injEq] at e; omega
    by_cases h0 : k = 0
    · subst h0
      have HT := Lib.hid (show L.take 0 = trimL L from trim_take (Nat.zero_le _) HZ.out (.inl rfl))
      clear h
      go_wp2_with fail
      refine wp_region_below (by kernel_rfl) (by kernel_rfl) ?_
      iterate 3 (with_reducible refine wpQuiet_yes ?_ ?_; (focus (kernel_rfl)); intro K hK; go_simp; refine ⟨_, fun _ _ => rfl, ?_⟩; with_reducible refine hK _ ?_; clear hK K)
      iterate 12 (with_reducible refine wpQuiet_no ?_ ?_; (focus (kernel_rfl)); intro K hK; go_simp; with_reducible refine hK _ ?_; clear hK K)
      (with_reducible refine wpQuiet_yes ?_ ?_; (focus (kernel_rfl)); intro K hK; go_simp; refine ⟨_, fun _ _ => rfl, ?_⟩; with_reducible refine hK _ ?_; clear hK K)
      refine wpQuiet_nil fun w2 hb2 => ?_
      have HB2 := Lib.hid (show Below w.heap.size w w2 from HB.out.trans (hb2.mono HB.out.size))
      clear hb2
      simp only [Exit.then]
      go_wp2_with fail
      rw [HT.out] at HR
      refine (iCloneE p _ _ _ (HR.out w2 HB2.out)).mono ?_
      rintro e w3 ⟨u, rfl, hu, hb3⟩
      have H3 := Lib.hid (show RowE w3 w.heap.size u p (trimL L) ∧ Below w.heap.size w w3 from ⟨hu.base HB2.out.size, HB2.out.trans (hb3.mono HB2.out.size)⟩)
      clear hu hb3
      go_wp2_with fail
      go_ret
      exact ⟨_, rfl, H3.out⟩
    · obtain ⟨m, rfl⟩ : ∃ m, k = m + 1 := ⟨k - 1, by omega⟩
      have hml : m < L.length := by omega
      obtain ⟨g, off, cap2, he, hkk, hg, hc⟩ := HH.out.some (by omega)
      simp only [Value.slice.injEq] at he
      obtain ⟨rfl, _, rfl⟩ := he
      obtain ⟨c0, c1⟩ := hc m hml
      have hxb := HE.out m
      obtain ⟨x, hx⟩ : ∃ x, x = cf L m := ⟨_, rfl⟩
      rw [← hx] at c1 hxb
      have HX := Lib.hid hx
      have HCC := Lib.hid (fun w' (hb : Below wr.heap.size wr w') => show w'.cell? ⟨g, off + m * 2, none⟩ = some (.int .i64 p) ∧ w'.cell? ⟨g, off + m * 2 + 1, none⟩ = some (.int .i64 x) from by
        have h2 := HB.out.trans (hb.mono HB.out.size)
        exact ⟨(h2.cell (p := ⟨g, off + m * 2, none⟩) hg).trans c0, (h2.cell (p := ⟨g, off + m * 2 + 1, none⟩) hg).trans c1⟩)
      have HZR := Lib.hid (fun w' => iZero p x HP.out hxb.1 hxb.2 w')
      have hsub : ((m + 1 : Nat) : Int) - 1 = (m : Int) := by omega
      have hgt : ((m + 1 : Nat) : Int) > 0 := by omega
      have hm0 : (0 : Int) ≤ (m : Int) := by omega
      have hmlt : (m : Int) < (L.length : Int) := by omega
      have hwm : IntKind.i64.wrap (m : Int) = (m : Int) := IntWalk.i64_in _ (by omega)
      obtain ⟨r, hr⟩ : ∃ r, r = (x == 0) := ⟨_, rfl⟩
      have HEQ := fun w => runEqE r p x p 0 (by rw [hr]; simp) w
      have HRR := Lib.hid hr
      clear hc c0 c1 hx h hxb hkk hr
      go_wp2_with fail
      refine wp_region_below (by kernel_rfl) (by kernel_rfl) ?_
      iterate 7 (with_reducible refine wpQuiet_yes ?_ ?_; (focus (kernel_rfl)); intro K hK; go_simp; refine ⟨_, fun _ _ => rfl, ?_⟩; with_reducible refine hK _ ?_; clear hK K)
      (with_reducible refine wpQuiet_yes ?_ ?_; (focus (kernel_rfl)); intro K hK; go_simp; refine ⟨((.agg #[.int .i64 (p), .int .i64 (x)])), ?_, ?_⟩; rotate_left; with_reducible refine hK _ ?_; clear hK K; rotate_left)
      · intro w' hw
        obtain ⟨c1, c2⟩ := HCC.out w' hw
        simp [c1, c2, go_sem, Result.andThen]
      iterate 4 (with_reducible refine wpQuiet_yes ?_ ?_; (focus (kernel_rfl)); intro K hK; go_simp; refine ⟨_, fun _ _ => rfl, ?_⟩; with_reducible refine hK _ ?_; clear hK K)
      (with_reducible refine wpQuiet_yes ?_ ?_; (focus (kernel_rfl)); intro K hK; go_simp; refine ⟨((.agg #[.int .i64 (p), .int .i64 (x)])), ?_, ?_⟩; rotate_left; with_reducible refine hK _ ?_; clear hK K; rotate_left)
      · intro w' hw
        obtain ⟨c1, c2⟩ := HCC.out w' hw
        simp [c1, c2, go_sem, Result.andThen]
      (with_reducible refine wpQuiet_yes ?_ ?_; (focus (kernel_rfl)); intro K hK; go_simp; refine ⟨((.agg #[.int .i64 (p), .int .i64 (0)])), ?_, ?_⟩; rotate_left; with_reducible refine hK _ ?_; clear hK K; rotate_left)
      · intro w' hw
        exact (HZR.out w').mono fun e w'' ⟨he, h⟩ => ⟨he, hw.trans (h.mono hw.size)⟩
      (with_reducible refine wpQuiet_yes ?_ ?_; (focus (kernel_rfl)); intro K hK; go_simp; refine ⟨(.bool r), ?_, ?_⟩; rotate_left; with_reducible refine hK _ ?_; clear hK K; rotate_left)
      · intro w' hw
        simp [go_sem]
      (with_reducible refine wpQuiet_yes ?_ ?_; (focus (kernel_rfl)); intro K hK; go_simp; refine ⟨_, fun _ _ => rfl, ?_⟩; with_reducible refine hK _ ?_; clear hK K)
      refine wpQuiet_nil fun w2 hb2 => ?_
      have HB2 := Lib.hid (show Below w.heap.size w w2 from HB.out.trans (hb2.mono HB.out.size))
      clear hb2
      simp only [Exit.then]
      cases r
      · have HT := Lib.hid (show L.take (m + 1) = trimL L from trim_take hk HZ.out (.inr (by show cf L (m + 1 - 1) ≠ 0; rw [show m + 1 - 1 = m from rfl, ← HX.out]; have := HRR.out; simpa using this.symm)))
        rw [HT.out] at HR
        go_wp2_with fail
        refine (iCloneE p _ _ _ (HR.out w2 HB2.out)).mono ?_
        rintro e w3 ⟨u, rfl, hu, hb3⟩
        have H3 := Lib.hid (show RowE w3 w.heap.size u p (trimL L) ∧ Below w.heap.size w w3 from ⟨hu.base HB2.out.size, HB2.out.trans (hb3.mono HB2.out.size)⟩)
        clear hu hb3
        go_wp2_with fail
        go_ret
        exact ⟨_, rfl, H3.out⟩
      · go_wp2_with fail
        go_roundw
        case rel =>
          refine ⟨m, by omega, rfl, fun j hj => ?_, HB2.out⟩
          by_cases e : j = m
          · rw [e, ← HX.out]; have := HRR.out; simpa using this.symm
          · exact HZ.out j (by omega)
        case measure => simp [intOf]
theorem RowE.at_ {w : World} {B : Nat} {v : Value} {p : Int} {L : List Int} (h : RowE w B v p L) (hL : 0 < L.length) : ∃ g cap, v = .slice (some ⟨g, 0, none⟩) L.length cap ∧ B ≤ g ∧ g < w.heap.size ∧ L.length ≤ cap ∧ cap ≤ maxLen := by
  rcases h.shape with ⟨_, h0⟩ | h
  · rw [h0] at hL; simp at hL
  · exact h
theorem RowE.froz {w : World} {B g n cap : Nat} {p : Int} {L : List Int} (h : RowE w B (.slice (some ⟨g, 0, none⟩) n cap) p L) (hn : n = L.length) (j : Nat) : w.frozen? ⟨g, j, none⟩ = false := by
  subst hn; exact World.ownsRow.frozenAt h j
/-- the list behind some rounds: the first ones are new -/
def mixL (n : Nat) (c d : Nat → Int) (k : Nat) : List Int := lsU n (fun j => if j < k then d j else c j)
theorem mixL_len (n : Nat) (c d : Nat → Int) (k : Nat) : (mixL n c d k).length = n := lsU_len _ _
theorem mixL_zero (n : Nat) (c d : Nat → Int) : mixL n c d 0 = lsU n c := lsU_ext (fun j _ => if_neg (by omega))
theorem mixL_all (n : Nat) (c d : Nat → Int) : mixL n c d n = lsU n d := lsU_ext (fun j hj => if_pos hj)
theorem mixL_set {n : Nat} {c d : Nat → Int} {k : Nat} (hk : k < n) : (mixL n c d k).set k (d k) = mixL n c d (k + 1) := by
  refine lsU_set hk (fun j _ => ?_)
  by_cases e : j = k
  · subst e; rw [if_pos (by omega), if_pos rfl]
  · rw [if_neg e]
    by_cases e2 : j < k
    · rw [if_pos e2, if_pos (by omega)]
    · rw [if_neg e2, if_neg (by omega)]
theorem mixL_cf {n : Nat} {c d : Nat → Int} {k : Nat} (hk : k < n) : cf (mixL n c d k) k = c k := by
  unfold mixL; rw [lsU_cf hk, if_neg (by omega)]
set_option maxRecDepth 100000 in
set_option maxHeartbeats 8000000 in
theorem iMinusL (p : Int) (v : Value) (L : List Int) (w : World) (hp : isP p = true) (h : Elr w v p L) (hE : AllE p L) (hl : L.length ≤ 1000) :
    Calls Try.prog 142 #[v] w fun e w' => ∃ u, e = .returned u ∧ RowE w' w.heap.size u p (negL p L) ∧ Below w.heap.size w w' := by
  obtain ⟨q1, q2⟩ := isP_bd hp
  have HP := Lib.hid hp
  have HE := Lib.hid hE
  have HH := Lib.hid h
  have HC := Lib.hid (iCloneE p v L w h)
  obtain ⟨a, cap, rfl⟩ := h.form
  clear hp hE h
  go_enter Try.func142, Try.ntmps142
  go_wp2_with fail
  refine HC.out.mono ?_
  rintro e w1 ⟨u, rfl, hu, hb1⟩
  have HU := Lib.hid (show RowE w1 w.heap.size u p (mixL L.length (cf L) (fun j => (-cf L j) % p) 0) from by rw [mixL_zero, lsU_of]; exact hu)
  have HB1 := Lib.hid hb1
  clear hu hb1
  go_wp2_with fail
  go_loopw [10] (fun i wr => ∃ k : Nat, k ≤ L.length ∧ i = .int .i64 k ∧ RowE wr w.heap.size u p (mixL L.length (cf L) (fun j => (-cf L j) % p) k) ∧ Below w.heap.size w wr) (fun i _ => L.length - (intOf i).toNat)
  case atStart => exact ⟨0, by omega, rfl, HU.out, HB1.out⟩
  case round =>
    obtain ⟨k, hk, rfl, hf, hb⟩ := hrel
    have HF := Lib.hid hf
    have HB := Lib.hid hb
    clear hf hb
    by_cases hkl : k < L.length
    · obtain ⟨g, off, cap2, he, _, hg, hc⟩ := HH.out.some (by omega)
      simp only [Value.slice.injEq] at he
      obtain ⟨rfl, _, rfl⟩ := he
      obtain ⟨c0, c1⟩ := hc k hkl
      have hxb := HE.out k
      obtain ⟨x, hx⟩ : ∃ x, x = cf L k := ⟨_, rfl⟩
      rw [← hx] at c1 hxb
      obtain ⟨G, C, hue, hGB, hGs, _, _⟩ := HF.out.at_ (by rw [mixL_len]; omega)
      rw [mixL_len] at hue
      subst hue
      have d0 : wr.cell? ⟨g, off + k * 2, none⟩ = some (.int .i64 p) := (HB.out.cell (p := ⟨g, off + k * 2, none⟩) hg).trans c0
      have d1 : wr.cell? ⟨g, off + k * 2 + 1, none⟩ = some (.int .i64 x) := (HB.out.cell (p := ⟨g, off + k * 2 + 1, none⟩) hg).trans c1
      have hkI : (k : Int) < (L.length : Int) := by omega
      have hk0 : (0 : Int) ≤ (k : Int) := by omega
      obtain ⟨y, hy⟩ : ∃ y, y = (-x) % p := ⟨_, rfl⟩
      have HM := Lib.hid (fun w => iMinus p x HP.out hxb.1 hxb.2 w)
      rw [← hy] at HM
      have HN := Lib.hid (show (mixL L.length (cf L) (fun j => (-cf L j) % p) k).set k y = mixL L.length (cf L) (fun j => (-cf L j) % p) (k + 1) from by rw [hy, hx]; exact mixL_set hkl)
      have HLN := Lib.hid (mixL_len L.length (cf L) (fun j => (-cf L j) % p) k)
      have HLN2 := Lib.hid (mixL_len L.length (cf L) (fun j => (-cf L j) % p) (k + 1))
      obtain ⟨M, hM⟩ : ∃ M, M = mixL L.length (cf L) (fun j => (-cf L j) % p) k := ⟨_, rfl⟩
      rw [← hM] at HF HN HLN
      clear hc c0 c1 hx hy hxb hM
      go_wp2_with fail
      refine (HM.out _).mono ?_
      rintro e w2 ⟨rfl, hb2⟩
      have HB2 := Lib.hid (show Below wr.heap.size wr w2 from (Below.alloc (Below.refl _ _) (Nat.le_refl _) _).trans (hb2.mono (by simp)))
      have HF2 := Lib.hid (show RowE w2 w.heap.size (.slice (some ⟨G, 0, none⟩) M.length C) p M from by rw [HLN.out]; exact HF.out.below HB2.out)
      have e0 := (HF2.out.cells (j := k) (by have := HLN.out; omega)).1
      have e1 := (HF2.out.cells (j := k) (by have := HLN.out; omega)).2
      have f0 := HF2.out.froz rfl (k * 2)
      have f1 := HF2.out.froz rfl (k * 2 + 1)
      have H3 := Lib.hid (show RowE ((w2.setCell ⟨G, k * 2, none⟩ (.int .i64 p)).setCell ⟨G, k * 2 + 1, none⟩ (.int .i64 y)) w.heap.size (.slice (some ⟨G, 0, none⟩) L.length C) p (mixL L.length (cf L) (fun j => (-cf L j) % p) (k + 1)) ∧ Below w.heap.size w ((w2.setCell ⟨G, k * 2, none⟩ (.int .i64 p)).setCell ⟨G, k * 2 + 1, none⟩ (.int .i64 y)) from by
        refine ⟨?_, ((HB.out.trans (HB2.out.mono HB.out.size)).setCell hGB _).setCell hGB _⟩
        have := HF2.out.set (j := k) (by have := HLN.out; omega) y
        rw [HN.out, HLN.out] at this
        exact this)
      clear hb2
      go_wp2_with fail
      go_roundw
      case rel => exact ⟨k + 1, by omega, by go_num, H3.out⟩
      case measure => simp [intOf]; omega
    · have hkl2 : k = L.length := by omega
      subst hkl2
      rw [mixL_all] at HF
      go_wp2_with fail
      go_ret
      exact ⟨_, rfl, HF.out, HB.out⟩
end Go.Proofs.Ytfmpcniehgipfaa
