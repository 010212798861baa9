/-
  Of lists: what put's second half makes. Conditions: none.
-/
import Derived.Test.YtiahcaihmgnicaaPutB
namespace Go.Proofs.Ytiahcaihmgnicaa
open Go.RowKit
theorem take_set_same {L : List Trm} {k : Nat} (x : Trm) : (L.set k x).take k = L.take k := by
  rw [List.take_set_of_le (Nat.le_refl k)]
theorem drop_set_same {L : List Trm} {k : Nat} (x : Trm) : (L.set k x).drop (k + 1) = L.drop (k + 1) := by
  rw [List.drop_set_of_lt (Nat.lt_succ_self k)]
theorem set_self {L : List Trm} {k : Nat} (hk : k < L.length) {x : Trm} (h : L.getD k default = x) : L.set k x = L := by
  apply List.ext_getElem?
  intro i
  rw [List.getElem?_set]
  split
  · rename_i e
    subst e
    try rw [if_pos hk]
    rw [← h]
    simp [List.getD_eq_getElem?_getD, List.getElem?_eq_getElem hk]
  · rfl
theorem addT_set {p : Int} {x : Trm} {L : List Trm} (he : Els p L) (hx : 0 ≤ x.t ∧ x.t < p) (hs : (insV x L + x.t) % p ≠ 0) : (insT x L).set (plc x L) ⟨x.a, x.b, x.c, (insV x L + x.t) % p⟩ = addT p x L := by
  have hpl := plc_le x L
  have hat := insT_at (x := x) (L := L)
  unfold insT at hat ⊢
  unfold insV at hs hat ⊢
  by_cases hh : hit x L = true
  · rw [if_pos hh] at hs hat ⊢
    rw [if_pos hh] at hat ⊢
    have hlt : plc x L < L.length := by simp only [hit, Bool.and_eq_true, decide_eq_true_eq] at hh; exact hh.1
    have hy := he (L.getD (plc x L) default) (by simp [List.getD_eq_getElem?_getD, List.getElem?_eq_getElem hlt])
    unfold addT
    by_cases h0 : x.t = 0
    · rw [if_pos h0]
      have e : ((L.getD (plc x L) default).t + x.t) % p = (L.getD (plc x L) default).t := by rw [h0, Int.add_zero]; exact Int.emod_eq_of_lt (by omega) hy.2
      rw [e]
      exact set_self hlt hat
    · rw [if_neg h0, if_pos hh, if_neg hs, List.set_eq_take_append_cons_drop, if_pos hlt]
  · rw [if_neg hh] at hs hat ⊢
    rw [if_neg hh] at hat ⊢
    have e : (0 + x.t) % p = x.t := by rw [Int.zero_add]; exact Int.emod_eq_of_lt hx.1 hx.2
    rw [e] at hs ⊢
    unfold addT
    rw [if_neg hs, if_neg hh]
    rw [List.set_append_right _ _ (by simp; omega)]
    simp [Nat.min_eq_left hpl]
theorem addT_del {p : Int} {x : Trm} {L : List Trm} (he : Els p L) (hx : 0 ≤ x.t ∧ x.t < p) (hs : (insV x L + x.t) % p = 0) : (insT x L).take (plc x L) ++ (insT x L).drop (plc x L + 1) = addT p x L := by
  have hpl := plc_le x L
  unfold insT
  unfold insV at hs
  by_cases hh : hit x L = true
  · rw [if_pos hh] at hs ⊢
    have hlt : plc x L < L.length := by simp only [hit, Bool.and_eq_true, decide_eq_true_eq] at hh; exact hh.1
    have hy := he (L.getD (plc x L) default) (by simp [List.getD_eq_getElem?_getD, List.getElem?_eq_getElem hlt])
    unfold addT
    by_cases h0 : x.t = 0
    · exfalso
      rw [h0, Int.add_zero, Int.emod_eq_of_lt (by omega) hy.2] at hs
      omega
    · rw [if_neg h0, if_pos hh, if_pos hs]
  · rw [if_neg hh] at hs ⊢
    have e : x.t = 0 := by rw [Int.zero_add, Int.emod_eq_of_lt hx.1 hx.2] at hs; exact hs
    unfold addT
    rw [if_pos e, List.take_append, List.drop_append]
    simp only [List.length_take, Nat.min_eq_left hpl, Nat.sub_self, List.take_zero, List.append_nil, List.take_take, Nat.min_self]
    rw [List.drop_of_length_le (by simp; omega), show plc x L + 1 - plc x L = 1 by omega]
    simp
theorem insV_el {p : Int} {x : Trm} {L : List Trm} (hp : isP p = true) (he : Els p L) : isE p (insV x L) = true := by
  have hb := isP_bd hp
  rw [isE_iff]
  unfold insV
  split
  · rename_i hh
    have hlt : plc x L < L.length := by simp only [hit, Bool.and_eq_true, decide_eq_true_eq] at hh; exact hh.1
    have hy := he (L.getD (plc x L) default) (by simp [List.getD_eq_getElem?_getD, List.getElem?_eq_getElem hlt])
    omega
  · omega
/-- the element of a term is stored anew -/
theorem Row.setT {w : World} {B g cap k : Nat} {L : List Trm} (h : Row w B (.slice (some ⟨g, 0, none⟩) L.length cap) L) (hk : k < L.length) {a b c t : Int} (hat : L.getD k default = ⟨a, b, c, t⟩) (s : Int) :
    Row (w.setCell ⟨g, k * 4 + 3, none⟩ (.int .i64 s)) B (.slice (some ⟨g, 0, none⟩) L.length cap) (L.set k ⟨a, b, c, s⟩) := by
  obtain ⟨g', cap', cur, he, hBb, hg, hn, hm, hs, ht⟩ : ∃ g' cap' cur, (Value.slice (some ⟨g, 0, none⟩) L.length cap) = .slice (some ⟨g', 0, none⟩) L.length cap' ∧ B ≤ g' ∧ w.heap[g']? = some (.cells cur 68 (0, 0)) ∧ L.length ≤ cap' ∧ cap' ≤ maxLen ∧ cur.size = cap' * 4 ∧ cur.toList.take (L.length * 4) = flat L := by
    rcases h.2 with ⟨h1, _⟩ | h1
    · cases h1
    · exact h1
  cases he
  have hfl := flat_len L
  obtain ⟨cur1, q1, q2⟩ := setCells_row g 68 (0, 0) [.int .i64 s] (k * 4 + 3) w cur hg
  have e0 : w.setCells g (k * 4 + 3) [.int .i64 s] = w.setCell ⟨g, k * 4 + 3, none⟩ (.int .i64 s) := rfl
  rw [e0] at q1
  have hln : (L.set k ⟨a, b, c, s⟩).length = L.length := List.length_set
  have := row_of_cells (L := L.set k ⟨a, b, c, s⟩) hBb q1 (by rw [q2, hs]) (by omega) hm (fun j u hu => by
    have hj := (List.getElem?_eq_some_iff.1 hu).1
    rw [flat_len, hln] at hj
    have hfa := flat_at (L.set k ⟨a, b, c, s⟩) (j / 4) (j % 4) (by omega) (by omega)
    rw [show j / 4 * 4 + j % 4 = j by omega, hu] at hfa
    have hfb := flat_at L (j / 4) (j % 4) (by omega) (by omega)
    rw [show j / 4 * 4 + j % 4 = j by omega] at hfb
    have hcell := World.ownsRow.cellAt h j hj
    by_cases e : j = k * 4 + 3
    · subst e
      have hc3 : w.cell? ⟨g, k * 4 + 3, none⟩ = some (.int .i64 t) := by rw [hcell, hfb, show (k * 4 + 3) / 4 = k by omega, show (k * 4 + 3) % 4 = 3 by omega, hat]; rfl
      rw [World.cell?_setCell_same _ _ _ hc3]
      rw [hfa, show (k * 4 + 3) / 4 = k by omega, show (k * 4 + 3) % 4 = 3 by omega]
      simp [List.getD_eq_getElem?_getD, hk, Trm.cs]
    · rw [World.cell?_setCell_other _ _ _ _ (by intro h; injection h with _ h2; exact e h2.symm), hcell, hfb, hfa]
      by_cases e2 : j / 4 = k
      · have e3 : j % 4 < 3 := by omega
        rw [e2, hat]
        have : (L.set k ⟨a, b, c, s⟩).getD k default = ⟨a, b, c, s⟩ := by simp [List.getD_eq_getElem?_getD, hk]
        rw [this]
        match h4 : j % 4, e3 with
        | 0, _ => rfl
        | 1, _ => rfl
        | 2, _ => rfl
      · congr 2
        simp [List.getD_eq_getElem?_getD, Ne.symm e2])
  rw [hln] at this
  exact this
end Go.Proofs.Ytiahcaihmgnicaa
