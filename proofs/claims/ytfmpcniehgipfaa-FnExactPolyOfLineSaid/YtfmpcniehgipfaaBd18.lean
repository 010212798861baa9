/-
  What put keeps and leaves. Conditions: the terms of the sum are in order.
  Of lists: what put's second half makes. Conditions: none.
  Contract of put, where the sum has terms already. Conditions: the terms of the sum are in order.
  Contract of put, where the sum has no term yet, and of put as a whole. Conditions: the terms of the sum are in order.
  Contracts of the product of two terms and of the sum as a polynomial. Conditions: exponents are small.
-/
import Derived.Test.YtfmpcniehgipfaaBd17
import Derived.Deep.Cut
import Derived.Deep.CutRange
import Derived.Test.YtfmpcniehgipfaaBd4
import Derived.Deep.RegionWith
import Derived.Test.YtfmpcniehgipfaaBd16
import Derived.Test.YtfmpcniehgipfaaBd2
namespace Go.Proofs.Ytfmpcniehgipfaa
open Go.RowKit
/-- what put leaves behind -/
def PutTo (B S : Nat) (p : Int) (v : Value) (L' : List Trm) (w : World) (e : Ending) (w' : World) : Prop :=
  e = .returned (.tuple #[]) ∧ ∃ v', SumW w' S p v' ∧ Row w' B v' L' ∧ v'.ownBlock ≠ some S ∧ Kept (fun k => k = S ∨ v.ownBlock = some k) w w' ∧ (v'.ownBlock = v.ownBlock ∨ ∃ g, v'.ownBlock = some g ∧ w.heap.size ≤ g)
theorem OneAt_alloc (w : World) (x : Trm) : OneAt (w.alloc (Obj.cells #[.int .i64 x.a, .int .i64 x.b, .int .i64 x.c, .int .i64 x.t] 91)) w.heap.size x := heap_alloc_new w _
def Trm.zero (x : Trm) : Trm := ⟨x.a, x.b, x.c, 0⟩
theorem rowSome {w : World} {B : Nat} {v : Value} {L : List Trm} (h : Row w B v L) (hne : 0 < L.length) : ∃ g cap, v = .slice (some ⟨g, 0, none⟩) L.length cap ∧ B ≤ g ∧ g < w.heap.size ∧ L.length ≤ cap ∧ cap ≤ maxLen := by
  rcases h.shape with ⟨_, rfl⟩ | h
  · simp at hne
  · exact h
/-- a post that speaks of the normal end alone -/
def NormPost (R : Act → World → Prop) : Exit → Act → World → Prop
  | .normal, a, w => R a w
  | _, _, _ => False
theorem NormPost.imp {R : Act → World → Prop} {Q : Exit → Act → World → Prop} (h : ∀ a w, R a w → Q .normal a w) : ∀ e a w, NormPost R e a w → Q e a w := fun e a w hq => by
  cases e <;> first | exact h a w hq | exact (hq : False).elim
/-- the terms behind put's first half: a term without an element is put where none with its powers stands -/
def insT (x : Trm) (L : List Trm) : List Trm := if hit x L = true then L else L.take (plc x L) ++ x.zero :: L.drop (plc x L)
theorem insT_len {x : Trm} {L : List Trm} : (insT x L).length ≤ L.length + 1 ∧ plc x L < (insT x L).length := by
  have := plc_le x L
  unfold insT
  split
  · rename_i h
    simp only [hit, Bool.and_eq_true, decide_eq_true_eq] at h
    omega
  · simp; omega
/-- what stands at the place behind put's first half -/
def insV (x : Trm) (L : List Trm) : Int := if hit x L = true then (L.getD (plc x L) default).t else 0
theorem insT_at {x : Trm} {L : List Trm} : (insT x L).getD (plc x L) default = ⟨x.a, x.b, x.c, insV x L⟩ := by
  have := plc_le x L
  unfold insT insV
  split
  · rename_i h
    simp only [hit, Bool.and_eq_true] at h
    have h2 := samB_iff.1 h.2
    cases hy : L.getD (plc x L) default with
    | mk a b c t => rw [hy] at h2; simp only at h2; rw [h2.1, h2.2.1, h2.2.2]
  · rw [List.getD_eq_getElem?_getD, List.getElem?_append_right (by simp; omega)]
    simp [Trm.zero, Nat.min_eq_left this]
/-- the world where put's ways meet -/
def MidW (B S : Nat) (p : Int) (v : Value) (x : Trm) (L : List Trm) (w w' : World) : Prop :=
  ∃ g1 cap1, SumW w' S p (.slice (some ⟨g1, 0, none⟩) (insT x L).length cap1) ∧ Row w' B (.slice (some ⟨g1, 0, none⟩) (insT x L).length cap1) (insT x L) ∧ w'.cell? ⟨w.heap.size, 0, none⟩ = some (.pointer (some ⟨S, 0, none⟩)) ∧ TAt w' (w.heap.size + 1) 0 x ∧ w.heap.size + 1 < w'.heap.size ∧
    Kept (fun k => k = S ∨ v.ownBlock = some k) w w' ∧ g1 ≠ S ∧ g1 ≠ w.heap.size ∧ g1 ≠ w.heap.size + 1 ∧ (v.ownBlock = some g1 ∨ w.heap.size ≤ g1)
theorem TAt.kept {K : Nat → Prop} {a w : World} {g o : Nat} {x : Trm} (h : TAt a g o x) (hk : Kept K a w) (hg : g < a.heap.size) (hn : ¬ K g) : TAt w g o x := by
  obtain ⟨h0, h1, h2, h3⟩ := h
  exact ⟨by rw [hk.cell (p := ⟨g, o, none⟩) hg hn]; exact h0, by rw [hk.cell (p := ⟨g, o + 1, none⟩) hg hn]; exact h1, by rw [hk.cell (p := ⟨g, o + 2, none⟩) hg hn]; exact h2, by rw [hk.cell (p := ⟨g, o + 3, none⟩) hg hn]; exact h3⟩
theorem Row.kept {K : Nat → Prop} {a w : World} {B g n cap : Nat} {L : List Trm} (h : Row a B (.slice (some ⟨g, 0, none⟩) n cap) L) (hk : Kept K a w) (hn : ¬ K g) : Row w B (.slice (some ⟨g, 0, none⟩) n cap) L := by
  have hg := (World.ownsRow.lt h g rfl).2
  refine ⟨h.1, ?_⟩
  rcases h.2 with h1 | ⟨g', cap', cur, h1, h2, h3, r⟩
  · exact .inl h1
  · cases h1
    exact .inr ⟨g, cap, cur, rfl, h2, by rw [hk.block g hg hn]; exact h3, r⟩
/-- the store of the new slice into the sum: the way's end -/
theorem MidW.of_ins {n1 B S : Nat} {p : Int} {v : Value} {x : Trm} {L : List Trm} {w w2 w3 : World} {g1 cap1 : Nat} {u : Value} (hS : SumW w2 S p u) (hp : w2.cell? ⟨w.heap.size, 0, none⟩ = some (.pointer (some ⟨S, 0, none⟩))) (ht : TAt w2 (w.heap.size + 1) 0 x) (hsz : w.heap.size + 1 < w2.heap.size)
    (hb : Below w.heap.size w w2) (hvS : v.ownBlock ≠ some S) (hvw : ∀ k, v.ownBlock = some k → k < w.heap.size) (hSw : S < w.heap.size)
    (hln : (insT x L).length = n1) (hR : Row w3 B (.slice (some ⟨g1, 0, none⟩) n1 cap1) (insT x L)) (hk : Kept (fun k => v.ownBlock = some k) w2 w3) (hg : v.ownBlock = some g1 ∨ w2.heap.size ≤ g1) :
    MidW B S p v x L w (w3.setCell ⟨S, 1, none⟩ (.slice (some ⟨g1, 0, none⟩) n1 cap1)) := by
  subst hln
  have hgS : g1 ≠ S := by rcases hg with h | h; intro e; exact hvS (e ▸ h); omega
  have hS3 : SumW w3 S p u := by
    have hh := hk.block S (by omega) hvS
    refine ⟨by rw [World.cell?_of_block (a := ⟨S, 0, none⟩) hh]; exact hS.c0, by rw [World.cell?_of_block (a := ⟨S, 1, none⟩) hh]; exact hS.c1, by rw [World.frozen?_of_block (a := ⟨S, 0, none⟩) hh]; exact hS.f0, by rw [World.frozen?_of_block (a := ⟨S, 1, none⟩) hh]; exact hS.f1, by have := hk.size; omega⟩
  have hset : Kept (fun k => k = S) w3 (w3.setCell ⟨S, 1, none⟩ (.slice (some ⟨g1, 0, none⟩) (insT x L).length cap1)) := Kept.set (K := fun k => k = S) (Kept.refl _ _) (p := ⟨S, 1, none⟩) (.inl rfl) _
  have hnn : ∀ k, w.heap.size ≤ k → ¬ v.ownBlock = some k := fun k hk e => by have := hvw k e; omega
  refine ⟨g1, cap1, hS3.set _, hR.kept hset hgS, ?_, ?_, ?_, ?_, hgS, ?_, ?_, ?_⟩
  · rw [hset.cell (p := ⟨w.heap.size, 0, none⟩) (show w.heap.size < w3.heap.size by have := hk.size; omega) (show ¬ w.heap.size = S by omega), hk.cell (p := ⟨w.heap.size, 0, none⟩) (show w.heap.size < w2.heap.size by omega) (hnn _ (Nat.le_refl _))]; exact hp
  · exact (ht.kept hk hsz (hnn _ (by omega))).kept hset (by have := hk.size; omega) (show ¬ w.heap.size + 1 = S by omega)
  · have := hk.size; simp; omega
  · exact ((Kept.of_below hb).trans (Kept.mono (K' := fun k => k = S ∨ v.ownBlock = some k) hk (fun k _ h => .inr h))).trans (hset.mono (fun k _ h => .inl h))
  · rcases hg with h | h; have := hvw _ h; omega; omega
  · rcases hg with h | h; have := hvw _ h; omega; omega
  · rcases hg with h | h; exact .inl h; exact .inr (by omega)
end Go.Proofs.Ytfmpcniehgipfaa
namespace Go.Proofs.Ytfmpcniehgipfaa
open Go.RowKit
theorem take_set_same {L : List Trm} {k : Nat} (x : Trm) : (L.set k x).take k = L.take k := by
  rw [List.take_set_of_le (Nat.le_refl k)]
theorem drop_set_same {L : List Trm} {k : Nat} (x : Trm) : (L.set k x).drop (k + 1) = L.drop (k + 1) := by
  rw [List.drop_set_of_lt (Nat.lt_succ_self k)]
theorem set_self {L : List Trm} {k : Nat} (hk : k < L.length) {x : Trm} (h : L.getD k default = x) : L.set k x = L := by
  apply List.ext_getElem?
  intro i
  rw [List.getElem?_set]
  split
  · rename_i e
    subst e
    try rw [if_pos hk]
    rw [← h]
    simp [List.getD_eq_getElem?_getD, List.getElem?_eq_getElem hk]
  · rfl
theorem addT_set {p : Int} {x : Trm} {L : List Trm} (he : Els p L) (hx : 0 ≤ x.t ∧ x.t < p) (hs : (insV x L + x.t) % p ≠ 0) : (insT x L).set (plc x L) ⟨x.a, x.b, x.c, (insV x L + x.t) % p⟩ = addT p x L := by
  have hpl := plc_le x L
  have hat := insT_at (x := x) (L := L)
  unfold insT at hat ⊢
  unfold insV at hs hat ⊢
  by_cases hh : hit x L = true
  · rw [if_pos hh] at hs hat ⊢
    rw [if_pos hh] at hat ⊢
    have hlt : plc x L < L.length := by simp only [hit, Bool.and_eq_true, decide_eq_true_eq] at hh; exact hh.1
    have hy := he (L.getD (plc x L) default) (by simp [List.getD_eq_getElem?_getD, List.getElem?_eq_getElem hlt])
    unfold addT
    by_cases h0 : x.t = 0
    · rw [if_pos h0]
      have e : ((L.getD (plc x L) default).t + x.t) % p = (L.getD (plc x L) default).t := by rw [h0, Int.add_zero]; exact Int.emod_eq_of_lt (by omega) hy.2
      rw [e]
      exact set_self hlt hat
    · rw [if_neg h0, if_pos hh, if_neg hs, List.set_eq_take_append_cons_drop, if_pos hlt]
  · rw [if_neg hh] at hs hat ⊢
    rw [if_neg hh] at hat ⊢
    have e : (0 + x.t) % p = x.t := by rw [Int.zero_add]; exact Int.emod_eq_of_lt hx.1 hx.2
    rw [e] at hs ⊢
    unfold addT
    rw [if_neg hs, if_neg hh]
    rw [List.set_append_right _ _ (by simp; omega)]
    simp [Nat.min_eq_left hpl]
theorem addT_del {p : Int} {x : Trm} {L : List Trm} (he : Els p L) (hx : 0 ≤ x.t ∧ x.t < p) (hs : (insV x L + x.t) % p = 0) : (insT x L).take (plc x L) ++ (insT x L).drop (plc x L + 1) = addT p x L := by
  have hpl := plc_le x L
  unfold insT
  unfold insV at hs
  by_cases hh : hit x L = true
  · rw [if_pos hh] at hs ⊢
    have hlt : plc x L < L.length := by simp only [hit, Bool.and_eq_true, decide_eq_true_eq] at hh; exact hh.1
    have hy := he (L.getD (plc x L) default) (by simp [List.getD_eq_getElem?_getD, List.getElem?_eq_getElem hlt])
    unfold addT
    by_cases h0 : x.t = 0
    · exfalso
      rw [h0, Int.add_zero, Int.emod_eq_of_lt (by omega) hy.2] at hs
      omega
    · rw [if_neg h0, if_pos hh, if_pos hs]
  · rw [if_neg hh] at hs ⊢
    have e : x.t = 0 := by rw [Int.zero_add, Int.emod_eq_of_lt hx.1 hx.2] at hs; exact hs
    unfold addT
    rw [if_pos e, List.take_append, List.drop_append]
    simp only [List.length_take, Nat.min_eq_left hpl, Nat.sub_self, List.take_zero, List.append_nil, List.take_take, Nat.min_self]
    rw [List.drop_of_length_le (by simp; omega), show plc x L + 1 - plc x L = 1 by omega]
    simp
theorem insV_el {p : Int} {x : Trm} {L : List Trm} (hp : isP p = true) (he : Els p L) : isE p (insV x L) = true := by
  have hb := isP_bd hp
  rw [isE_iff]
  unfold insV
  split
  · rename_i hh
    have hlt : plc x L < L.length := by simp only [hit, Bool.and_eq_true, decide_eq_true_eq] at hh; exact hh.1
    have hy := he (L.getD (plc x L) default) (by simp [List.getD_eq_getElem?_getD, List.getElem?_eq_getElem hlt])
    omega
  · omega
/-- the element of a term is stored anew -/
theorem Row.setT {w : World} {B g cap k : Nat} {L : List Trm} (h : Row w B (.slice (some ⟨g, 0, none⟩) L.length cap) L) (hk : k < L.length) {a b c t : Int} (hat : L.getD k default = ⟨a, b, c, t⟩) (s : Int) :
    Row (w.setCell ⟨g, k * 4 + 3, none⟩ (.int .i64 s)) B (.slice (some ⟨g, 0, none⟩) L.length cap) (L.set k ⟨a, b, c, s⟩) := by
  obtain ⟨g', cap', cur, he, hBb, hg, hn, hm, hs, ht⟩ : ∃ g' cap' cur, (Value.slice (some ⟨g, 0, none⟩) L.length cap) = .slice (some ⟨g', 0, none⟩) L.length cap' ∧ B ≤ g' ∧ w.heap[g']? = some (.cells cur 91 (0, 0)) ∧ L.length ≤ cap' ∧ cap' ≤ maxLen ∧ cur.size = cap' * 4 ∧ cur.toList.take (L.length * 4) = flat L := by
    rcases h.2 with ⟨h1, _⟩ | h1
    · cases h1
    · exact h1
  cases he
  have hfl := flat_len L
  obtain ⟨cur1, q1, q2⟩ := setCells_row g 91 (0, 0) [.int .i64 s] (k * 4 + 3) w cur hg
  have e0 : w.setCells g (k * 4 + 3) [.int .i64 s] = w.setCell ⟨g, k * 4 + 3, none⟩ (.int .i64 s) := rfl
  rw [e0] at q1
  have hln : (L.set k ⟨a, b, c, s⟩).length = L.length := List.length_set
  have := row_of_cells (L := L.set k ⟨a, b, c, s⟩) hBb q1 (by rw [q2, hs]) (by omega) hm (fun j u hu => by
    have hj := (List.getElem?_eq_some_iff.1 hu).1
    rw [flat_len, hln] at hj
    have hfa := flat_at (L.set k ⟨a, b, c, s⟩) (j / 4) (j % 4) (by omega) (by omega)
    rw [show j / 4 * 4 + j % 4 = j by omega, hu] at hfa
    have hfb := flat_at L (j / 4) (j % 4) (by omega) (by omega)
    rw [show j / 4 * 4 + j % 4 = j by omega] at hfb
    have hcell := World.ownsRow.cellAt h j hj
    by_cases e : j = k * 4 + 3
    · subst e
      have hc3 : w.cell? ⟨g, k * 4 + 3, none⟩ = some (.int .i64 t) := by rw [hcell, hfb, show (k * 4 + 3) / 4 = k by omega, show (k * 4 + 3) % 4 = 3 by omega, hat]; rfl
      rw [World.cell?_setCell_same _ _ _ hc3]
      rw [hfa, show (k * 4 + 3) / 4 = k by omega, show (k * 4 + 3) % 4 = 3 by omega]
      simp [List.getD_eq_getElem?_getD, hk, Trm.cs]
    · rw [World.cell?_setCell_other _ _ _ _ (by intro h; injection h with _ h2; exact e h2.symm), hcell, hfb, hfa]
      by_cases e2 : j / 4 = k
      · have e3 : j % 4 < 3 := by omega
        rw [e2, hat]
        have : (L.set k ⟨a, b, c, s⟩).getD k default = ⟨a, b, c, s⟩ := by simp [List.getD_eq_getElem?_getD, hk]
        rw [this]
        match h4 : j % 4, e3 with
        | 0, _ => rfl
        | 1, _ => rfl
        | 2, _ => rfl
      · congr 2
        simp [List.getD_eq_getElem?_getD, Ne.symm e2])
  rw [hln] at this
  exact this
end Go.Proofs.Ytfmpcniehgipfaa
namespace Go.Proofs.Ytfmpcniehgipfaa
open Go.RowKit
theorem getD_set_flat {L : List Trm} {k : Nat} (hk : k < L.length) (x : Trm) : L.take k ++ x :: L.drop (k + 1) = L.set k x := by
  rw [List.set_eq_take_append_cons_drop, if_pos hk]
theorem Kept.grown_on {K : Nat → Prop} {a w w' : World} {g1 : Nat} (h : Kept K a w) (hg : w.grownBy w' (some g1)) (hn : ∀ k, k < a.heap.size → ¬ K k → k ≠ g1) : Kept K a w' :=
  ⟨hg.os.trans h.os, hg.tape.trans h.tape, hg.output.trans h.output, Nat.le_trans h.size hg.size, fun k hk hk2 => (hg.block k (Nat.lt_of_lt_of_le hk h.size) (by simpa using hn k hk hk2)).trans (h.block k hk hk2)⟩
set_option maxRecDepth 100000 in
set_option maxHeartbeats 32000000 in
theorem iPutSome (B S g cap : Nat) (p : Int) (L : List Trm) (x : Trm) (w : World) (hS : SumW w S p (.slice (some ⟨g, 0, none⟩) L.length cap)) (hR : Row w B (.slice (some ⟨g, 0, none⟩) L.length cap) L) (hB : B ≤ w.heap.size) (hp : isP p = true)
    (hs : Srt L) (he : Els p L) (hx : isE p x.t = true) (hl : L.length ≤ 3999) (hgS : g ≠ S) :
    Calls Try.prog 104 #[.pointer (some ⟨S, 0, none⟩), .agg #[.int .i64 x.a, .int .i64 x.b, .int .i64 x.c, .int .i64 x.t]] w (PutTo B S p (.slice (some ⟨g, 0, none⟩) L.length cap) (addT p x L) w) := by
  have HSU := Lib.hid hS
  have HRO := Lib.hid hR
  have HP := Lib.hid hp
  have HSR := Lib.hid hs
  have HEL := Lib.hid he
  have HXE := Lib.hid hx
  obtain ⟨s0, s1, sf0, sf1, ssz⟩ := hS
  have hgw : g < w.heap.size := (World.ownsRow.lt hR g rfl).2
  have hbW : ∀ W, W = (w.alloc (Obj.cells #[.pointer (some ⟨S, 0, none⟩)] 130)).alloc (Obj.cells #[.int .i64 x.a, .int .i64 x.b, .int .i64 x.c, .int .i64 x.t] 91) → Below w.heap.size w W ∧ PutW W w.heap.size S g cap L x := fun W hW => by
    have hb : Below w.heap.size w W := by rw [hW]; exact Below.alloc (Below.alloc (Below.refl _ _) (Nat.le_refl _) _) (by simp) _
    exact ⟨hb, by rw [hW]; simp [go_sem], by rw [hW]; refine ⟨?_, ?_, ?_, ?_⟩ <;> simp [go_sem], (HSU.out.below hb).c1, fun j hj => (HRO.out.below hb).tat rfl hj, by rw [hW]; simp, by have := hb.size; omega, by have := hb.size; omega⟩
  have HSE := Lib.hid (show ∀ W, W = (w.alloc (Obj.cells #[.pointer (some ⟨S, 0, none⟩)] 130)).alloc (Obj.cells #[.int .i64 x.a, .int .i64 x.b, .int .i64 x.c, .int .i64 x.t] 91) →
      Calls Try.prog 135 #[.int .i64 L.length, .func (.func 136) #[] #[.pointer (some ⟨w.heap.size, 0, none⟩), .pointer (some ⟨w.heap.size + 1, 0, none⟩)]] W fun e w' => e = .returned (.int .i64 (plc x L : Nat)) ∧ Below w.heap.size w w' ∧ PutW w' w.heap.size S g cap L x from fun W hW =>
    (iSearch w.heap.size S g cap L x W (by omega) HSR.out (hbW W hW).2).mono fun e w' h => ⟨h.1, (hbW W hW).1.trans (h.2.mono (hbW W hW).1.size), (hbW W hW).2.below h.2⟩)
  obtain ⟨K, hKe⟩ : ∃ K, K = plc x L := ⟨_, rfl⟩
  have HKE := Lib.hid hKe
  rw [← hKe] at HSE
  have hKl : K ≤ L.length := by rw [hKe]; exact plc_le x L
  clear hR hp hs he hx hbW hKe
  go_enter Try.func104, Try.ntmps104
  go_upto_region 2 with (go_at_call 135; refine (HSE.out _ rfl).mono ?_; rintro e w1 ⟨rfl, hb1, hpw1⟩)
  have HB1 := Lib.hid hb1
  have HPW1 := Lib.hid hpw1
  clear hb1 hpw1 s0 s1 sf0 sf1
  have HF := Lib.hid (show ∀ w', Below w1.heap.size w1 w' → (w'.cell? ⟨w.heap.size, 0, none⟩ = some (.pointer (some ⟨S, 0, none⟩)) ∧ w'.cell? ⟨S, 1, none⟩ = some (.slice (some ⟨g, 0, none⟩) L.length cap)) ∧ TAt w' (w.heap.size + 1) 0 x from
    fun w' hb => by
      have q := HPW1.out.below hb
      exact ⟨⟨q.bs, q.sv⟩, q.bt⟩)
  go_cut [32] from 13 to 31 (fun s w' => s = .bool (!hit x L) ∧ Below w1.heap.size w1 w')
  case first =>
    as_aux_lemma =>
      by_cases hKL : K = L.length
      · have HLE := Lib.hid hKL
        have hh : hit x L = false := by unfold hit; rw [← HKE.out]; simp [hKL]
        have HH := Lib.hid hh
        clear hKL hh
        refine wp_region_below (by kernel_rfl) (by kernel_rfl) ?_
        (with_reducible refine wpQuiet_yes ?_ ?_; (focus (kernel_rfl)); intro K hK; go_simp; refine ⟨_, fun _ _ => rfl, ?_⟩; with_reducible refine hK _ ?_; clear hK K)
        (with_reducible refine wpQuiet_yes ?_ ?_; (focus (kernel_rfl)); intro K hK; go_simp; refine ⟨(.pointer (some ⟨S, 0, none⟩)), ?_, ?_⟩; rotate_left; with_reducible refine hK _ ?_; clear hK K; rotate_left)
        · intro w' hw
          simp only [(HF.out w' hw).1.1, go_sem, Result.andThen, and_self]
        (with_reducible refine wpQuiet_yes ?_ ?_; (focus (kernel_rfl)); intro K hK; go_simp; refine ⟨_, fun _ _ => rfl, ?_⟩; with_reducible refine hK _ ?_; clear hK K)
        (with_reducible refine wpQuiet_yes ?_ ?_; (focus (kernel_rfl)); intro K hK; go_simp; refine ⟨_, fun _ _ => rfl, ?_⟩; with_reducible refine hK _ ?_; clear hK K)
        (with_reducible refine wpQuiet_yes ?_ ?_; (focus (kernel_rfl)); intro K hK; go_simp; refine ⟨(.slice (some ⟨g, 0, none⟩) L.length cap), ?_, ?_⟩; rotate_left; with_reducible refine hK _ ?_; clear hK K; rotate_left)
        · intro w' hw
          simp only [(HF.out w' hw).1.2, go_sem, Result.andThen, and_self]
        (with_reducible refine wpQuiet_yes ?_ ?_; (focus (kernel_rfl)); intro K hK; go_simp; refine ⟨_, fun _ _ => rfl, ?_⟩; with_reducible refine hK _ ?_; clear hK K)
        (with_reducible refine wpQuiet_yes ?_ ?_; (focus (kernel_rfl)); intro K hK; go_simp; refine ⟨(.bool true), ?_, ?_⟩; rotate_left; with_reducible refine hK _ ?_; clear hK K; rotate_left)
        · intro w' hw
          have := HLE.out
          simp
          try omega
        (with_reducible refine wpQuiet_yes ?_ ?_; (focus (kernel_rfl)); intro K hK; go_simp; refine ⟨_, fun _ _ => rfl, ?_⟩; with_reducible refine hK _ ?_; clear hK K)
        iterate 11 (with_reducible refine wpQuiet_no ?_ ?_; (focus (kernel_rfl)); intro K hK; go_simp; with_reducible refine hK _ ?_; clear hK K)
        (with_reducible refine wpQuiet_yes ?_ ?_; (focus (kernel_rfl)); intro K hK; go_simp; refine ⟨_, fun _ _ => rfl, ?_⟩; with_reducible refine hK _ ?_; clear hK K)
        refine wpQuiet_nil fun w2 hb2 => ?_
        have HB2 := Lib.hid hb2
        clear hb2
        simp only [Exit.then]
        go_wp2_with fail
        go_meet
        case rel => exact ⟨by rw [HH.out]; rfl, HB2.out⟩
      · have hKlt : K < L.length := by omega
        have hKp : (K : Int) < (L.length : Int) := by omega
        have hK0 : (0 : Int) ≤ (K : Int) := by omega
        have HLE := Lib.hid hKL
        obtain ⟨y, hy⟩ : ∃ y, y = L.getD K default := ⟨_, rfl⟩
        have HG := Lib.hid (show ∀ w', Below w1.heap.size w1 w' → TAt w' g (K * 4) y from fun w' hb => by rw [hy]; exact (HPW1.out.below hb).row K hKlt)
        have HHY := Lib.hid (show hit x L = samB y x by unfold hit; rw [← HKE.out, ← hy]; simp [hKlt])
        clear hy hKL hKlt
        rcases Bool.eq_false_or_eq_true (samB y x) with hsy | hsy
        · have HQ := Lib.hid (show (y.a == x.a && y.b == x.b && y.c == x.c) = true from hsy)
          clear hsy
          refine wp_region_below (by kernel_rfl) (by kernel_rfl) ?_
          (with_reducible refine wpQuiet_yes ?_ ?_; (focus (kernel_rfl)); intro K hK; go_simp; refine ⟨_, fun _ _ => rfl, ?_⟩; with_reducible refine hK _ ?_; clear hK K)
          (with_reducible refine wpQuiet_yes ?_ ?_; (focus (kernel_rfl)); intro K hK; go_simp; refine ⟨(.pointer (some ⟨S, 0, none⟩)), ?_, ?_⟩; rotate_left; with_reducible refine hK _ ?_; clear hK K; rotate_left)
          · intro w' hw
            simp only [(HF.out w' hw).1.1, go_sem, Result.andThen, and_self]
          (with_reducible refine wpQuiet_yes ?_ ?_; (focus (kernel_rfl)); intro K hK; go_simp; refine ⟨_, fun _ _ => rfl, ?_⟩; with_reducible refine hK _ ?_; clear hK K)
          (with_reducible refine wpQuiet_yes ?_ ?_; (focus (kernel_rfl)); intro K hK; go_simp; refine ⟨_, fun _ _ => rfl, ?_⟩; with_reducible refine hK _ ?_; clear hK K)
          (with_reducible refine wpQuiet_yes ?_ ?_; (focus (kernel_rfl)); intro K hK; go_simp; refine ⟨(.slice (some ⟨g, 0, none⟩) L.length cap), ?_, ?_⟩; rotate_left; with_reducible refine hK _ ?_; clear hK K; rotate_left)
          · intro w' hw
            simp only [(HF.out w' hw).1.2, go_sem, Result.andThen, and_self]
          (with_reducible refine wpQuiet_yes ?_ ?_; (focus (kernel_rfl)); intro K hK; go_simp; refine ⟨_, fun _ _ => rfl, ?_⟩; with_reducible refine hK _ ?_; clear hK K)
          (with_reducible refine wpQuiet_yes ?_ ?_; (focus (kernel_rfl)); intro K hK; go_simp; refine ⟨(.bool false), ?_, ?_⟩; rotate_left; with_reducible refine hK _ ?_; clear hK K; rotate_left)
          · intro w' hw
            have := HLE.out
            simp
            try omega
          (with_reducible refine wpQuiet_yes ?_ ?_; (focus (kernel_rfl)); intro K hK; go_simp; refine ⟨_, fun _ _ => rfl, ?_⟩; with_reducible refine hK _ ?_; clear hK K)
          (with_reducible refine wpQuiet_yes ?_ ?_; (focus (kernel_rfl)); intro K hK; go_simp; refine ⟨(.pointer (some ⟨S, 0, none⟩)), ?_, ?_⟩; rotate_left; with_reducible refine hK _ ?_; clear hK K; rotate_left)
          · intro w' hw
            simp only [(HF.out w' hw).1.1, go_sem, Result.andThen, and_self]
          (with_reducible refine wpQuiet_yes ?_ ?_; (focus (kernel_rfl)); intro K hK; go_simp; refine ⟨_, fun _ _ => rfl, ?_⟩; with_reducible refine hK _ ?_; clear hK K)
          (with_reducible refine wpQuiet_yes ?_ ?_; (focus (kernel_rfl)); intro K hK; go_simp; refine ⟨_, fun _ _ => rfl, ?_⟩; with_reducible refine hK _ ?_; clear hK K)
          (with_reducible refine wpQuiet_yes ?_ ?_; (focus (kernel_rfl)); intro K hK; go_simp; refine ⟨(.slice (some ⟨g, 0, none⟩) L.length cap), ?_, ?_⟩; rotate_left; with_reducible refine hK _ ?_; clear hK K; rotate_left)
          · intro w' hw
            simp only [(HF.out w' hw).1.2, go_sem, Result.andThen, and_self]
          (with_reducible refine wpQuiet_yes ?_ ?_; (focus (kernel_rfl)); intro K hK; go_simp; refine ⟨_, fun _ _ => rfl, ?_⟩; with_reducible refine hK _ ?_; clear hK K)
          (with_reducible refine wpQuiet_yes ?_ ?_; (focus (kernel_rfl)); intro K hK; go_simp; refine ⟨_, fun _ _ => rfl, ?_⟩; with_reducible refine hK _ ?_; clear hK K)
          (with_reducible refine wpQuiet_yes ?_ ?_; (focus (kernel_rfl)); intro K hK; go_simp; refine ⟨_, fun _ _ => rfl, ?_⟩; with_reducible refine hK _ ?_; clear hK K)
          (with_reducible refine wpQuiet_yes ?_ ?_; (focus (kernel_rfl)); intro K hK; go_simp; refine ⟨(.agg #[.int .i64 y.a, .int .i64 y.b, .int .i64 y.c]), ?_, ?_⟩; rotate_left; with_reducible refine hK _ ?_; clear hK K; rotate_left)
          · intro w' hw
            obtain ⟨c0, c1, c2, c3⟩ := HG.out w' hw
            simp only [c0, c1, c2, go_sem, Result.andThen, and_self]
          (with_reducible refine wpQuiet_yes ?_ ?_; (focus (kernel_rfl)); intro K hK; go_simp; refine ⟨_, fun _ _ => rfl, ?_⟩; with_reducible refine hK _ ?_; clear hK K)
          (with_reducible refine wpQuiet_yes ?_ ?_; (focus (kernel_rfl)); intro K hK; go_simp; refine ⟨(.agg #[.int .i64 x.a, .int .i64 x.b, .int .i64 x.c]), ?_, ?_⟩; rotate_left; with_reducible refine hK _ ?_; clear hK K; rotate_left)
          · intro w' hw
            obtain ⟨c0, c1, c2, c3⟩ := (HF.out w' hw).2
            simp only [c0, c1, c2, go_sem, Result.andThen, and_self]
          (with_reducible refine wpQuiet_yes ?_ ?_; (focus (kernel_rfl)); intro K hK; go_simp; refine ⟨(.bool false), ?_, ?_⟩; rotate_left; with_reducible refine hK _ ?_; clear hK K; rotate_left)
          · intro w' hw
            have hq := runEqA_is true _ _ _ _ _ _ HQ.out w'
            simp only [hq, go_sem, Result.andThen, Bool.not_true, and_self]
          (with_reducible refine wpQuiet_yes ?_ ?_; (focus (kernel_rfl)); intro K hK; go_simp; refine ⟨_, fun _ _ => rfl, ?_⟩; with_reducible refine hK _ ?_; clear hK K)
          refine wpQuiet_nil fun w2 hb2 => ?_
          have HB2 := Lib.hid hb2
          clear hb2
          simp only [Exit.then]
          go_wp2_with fail
          go_meet
          case rel => exact ⟨by rw [HHY.out, show samB y x = true from HQ.out]; rfl, HB2.out⟩
        · have HQ := Lib.hid (show (y.a == x.a && y.b == x.b && y.c == x.c) = false from hsy)
          clear hsy
          refine wp_region_below (by kernel_rfl) (by kernel_rfl) ?_
          (with_reducible refine wpQuiet_yes ?_ ?_; (focus (kernel_rfl)); intro K hK; go_simp; refine ⟨_, fun _ _ => rfl, ?_⟩; with_reducible refine hK _ ?_; clear hK K)
          (with_reducible refine wpQuiet_yes ?_ ?_; (focus (kernel_rfl)); intro K hK; go_simp; refine ⟨(.pointer (some ⟨S, 0, none⟩)), ?_, ?_⟩; rotate_left; with_reducible refine hK _ ?_; clear hK K; rotate_left)
          · intro w' hw
            simp only [(HF.out w' hw).1.1, go_sem, Result.andThen, and_self]
          (with_reducible refine wpQuiet_yes ?_ ?_; (focus (kernel_rfl)); intro K hK; go_simp; refine ⟨_, fun _ _ => rfl, ?_⟩; with_reducible refine hK _ ?_; clear hK K)
          (with_reducible refine wpQuiet_yes ?_ ?_; (focus (kernel_rfl)); intro K hK; go_simp; refine ⟨_, fun _ _ => rfl, ?_⟩; with_reducible refine hK _ ?_; clear hK K)
          (with_reducible refine wpQuiet_yes ?_ ?_; (focus (kernel_rfl)); intro K hK; go_simp; refine ⟨(.slice (some ⟨g, 0, none⟩) L.length cap), ?_, ?_⟩; rotate_left; with_reducible refine hK _ ?_; clear hK K; rotate_left)
          · intro w' hw
            simp only [(HF.out w' hw).1.2, go_sem, Result.andThen, and_self]
          (with_reducible refine wpQuiet_yes ?_ ?_; (focus (kernel_rfl)); intro K hK; go_simp; refine ⟨_, fun _ _ => rfl, ?_⟩; with_reducible refine hK _ ?_; clear hK K)
          (with_reducible refine wpQuiet_yes ?_ ?_; (focus (kernel_rfl)); intro K hK; go_simp; refine ⟨(.bool false), ?_, ?_⟩; rotate_left; with_reducible refine hK _ ?_; clear hK K; rotate_left)
          · intro w' hw
            have := HLE.out
            simp
            try omega
          (with_reducible refine wpQuiet_yes ?_ ?_; (focus (kernel_rfl)); intro K hK; go_simp; refine ⟨_, fun _ _ => rfl, ?_⟩; with_reducible refine hK _ ?_; clear hK K)
          (with_reducible refine wpQuiet_yes ?_ ?_; (focus (kernel_rfl)); intro K hK; go_simp; refine ⟨(.pointer (some ⟨S, 0, none⟩)), ?_, ?_⟩; rotate_left; with_reducible refine hK _ ?_; clear hK K; rotate_left)
          · intro w' hw
            simp only [(HF.out w' hw).1.1, go_sem, Result.andThen, and_self]
          (with_reducible refine wpQuiet_yes ?_ ?_; (focus (kernel_rfl)); intro K hK; go_simp; refine ⟨_, fun _ _ => rfl, ?_⟩; with_reducible refine hK _ ?_; clear hK K)
          (with_reducible refine wpQuiet_yes ?_ ?_; (focus (kernel_rfl)); intro K hK; go_simp; refine ⟨_, fun _ _ => rfl, ?_⟩; with_reducible refine hK _ ?_; clear hK K)
          (with_reducible refine wpQuiet_yes ?_ ?_; (focus (kernel_rfl)); intro K hK; go_simp; refine ⟨(.slice (some ⟨g, 0, none⟩) L.length cap), ?_, ?_⟩; rotate_left; with_reducible refine hK _ ?_; clear hK K; rotate_left)
          · intro w' hw
            simp only [(HF.out w' hw).1.2, go_sem, Result.andThen, and_self]
          (with_reducible refine wpQuiet_yes ?_ ?_; (focus (kernel_rfl)); intro K hK; go_simp; refine ⟨_, fun _ _ => rfl, ?_⟩; with_reducible refine hK _ ?_; clear hK K)
          (with_reducible refine wpQuiet_yes ?_ ?_; (focus (kernel_rfl)); intro K hK; go_simp; refine ⟨_, fun _ _ => rfl, ?_⟩; with_reducible refine hK _ ?_; clear hK K)
          (with_reducible refine wpQuiet_yes ?_ ?_; (focus (kernel_rfl)); intro K hK; go_simp; refine ⟨_, fun _ _ => rfl, ?_⟩; with_reducible refine hK _ ?_; clear hK K)
          (with_reducible refine wpQuiet_yes ?_ ?_; (focus (kernel_rfl)); intro K hK; go_simp; refine ⟨(.agg #[.int .i64 y.a, .int .i64 y.b, .int .i64 y.c]), ?_, ?_⟩; rotate_left; with_reducible refine hK _ ?_; clear hK K; rotate_left)
          · intro w' hw
            obtain ⟨c0, c1, c2, c3⟩ := HG.out w' hw
            simp only [c0, c1, c2, go_sem, Result.andThen, and_self]
          (with_reducible refine wpQuiet_yes ?_ ?_; (focus (kernel_rfl)); intro K hK; go_simp; refine ⟨_, fun _ _ => rfl, ?_⟩; with_reducible refine hK _ ?_; clear hK K)
          (with_reducible refine wpQuiet_yes ?_ ?_; (focus (kernel_rfl)); intro K hK; go_simp; refine ⟨(.agg #[.int .i64 x.a, .int .i64 x.b, .int .i64 x.c]), ?_, ?_⟩; rotate_left; with_reducible refine hK _ ?_; clear hK K; rotate_left)
          · intro w' hw
            obtain ⟨c0, c1, c2, c3⟩ := (HF.out w' hw).2
            simp only [c0, c1, c2, go_sem, Result.andThen, and_self]
          (with_reducible refine wpQuiet_yes ?_ ?_; (focus (kernel_rfl)); intro K hK; go_simp; refine ⟨(.bool true), ?_, ?_⟩; rotate_left; with_reducible refine hK _ ?_; clear hK K; rotate_left)
          · intro w' hw
            have hq := runEqA_is false _ _ _ _ _ _ HQ.out w'
            simp only [hq, go_sem, Result.andThen, Bool.not_false, and_self]
          (with_reducible refine wpQuiet_yes ?_ ?_; (focus (kernel_rfl)); intro K hK; go_simp; refine ⟨_, fun _ _ => rfl, ?_⟩; with_reducible refine hK _ ?_; clear hK K)
          refine wpQuiet_nil fun w2 hb2 => ?_
          have HB2 := Lib.hid hb2
          clear hb2
          simp only [Exit.then]
          go_wp2_with fail
          go_meet
          case rel => exact ⟨by rw [HHY.out, show samB y x = false from HQ.out]; rfl, HB2.out⟩
  case rest =>
    as_aux_lemma =>
      obtain ⟨rfl, hb2⟩ := hcut
      have HB2 := Lib.hid (HB1.out.trans (hb2.mono HB1.out.size))
      have HPW2 := Lib.hid (HPW1.out.below hb2)
      clear hb2 HF HB1 HPW1
      go_upto_if 32 with fail
      go_cut [] from 32 to 45 (fun w' => MidW B S p (.slice (some ⟨g, 0, none⟩) L.length cap) x L w w')
      case first =>
        as_aux_lemma =>
          rcases Bool.eq_false_or_eq_true (hit x L) with hh | hh
          · have HH := Lib.hid hh
            rw [hh]
            clear hh
            go_wp2_with fail
            go_meet
            case rel =>
              have e : insT x L = L := by unfold insT; rw [if_pos HH.out]
              have hS2 := HSU.out.below HB2.out
              have hR2 := HRO.out.below HB2.out
              have hn1 := HPW2.out.n1
              exact ⟨g, cap, by rw [e]; exact hS2, by rw [e]; exact hR2, HPW2.out.bs, HPW2.out.bt, hn1, Kept.of_below HB2.out, hgS, by omega, by omega, .inl rfl⟩
          · have HH := Lib.hid hh
            rw [hh]
            clear hh
            go_wp2_with fail
            have hS2 := Lib.hid (HSU.out.below HB2.out)
            have hR2 := Lib.hid (HRO.out.below HB2.out)
            obtain ⟨r0, ⟨t0, t1, t2, t3⟩, r1, _, n1, S1, g1⟩ := HPW2.out
            have fS := hS2.out.f1
            have hne0 : w.heap.size ≠ g := by omega
            have n0 : w.heap.size < wc.heap.size := by omega
            have hnS : w.heap.size ≠ S := by omega
            have hnS2 : w.heap.size + 1 ≠ S := by omega
            have hnS3 : S ≠ w.heap.size := by omega
            have hnS4 : S ≠ w.heap.size + 1 := by omega
            have n0a : ∀ o, (wc.drew.alloc o).cell? ⟨w.heap.size, 0, none⟩ = some (.pointer (some ⟨S, 0, none⟩)) := fun o => by
              rw [World.cell?_of_block (w := wc) (a := ⟨w.heap.size, 0, none⟩) (heap_alloc_old wc.drew o n0)]; exact r0
            have n0b : ∀ o, (wc.alloc o).cell? ⟨w.heap.size, 0, none⟩ = some (.pointer (some ⟨S, 0, none⟩)) := fun o => by
              rw [World.cell?_of_block (w := wc) (a := ⟨w.heap.size, 0, none⟩) (heap_alloc_old wc o n0)]; exact r0
            have HIN := Lib.hid (show ∀ W', Below wc.heap.size wc W' → OneAt W' wc.heap.size x.zero → Calls Try.prog 138 #[.slice (some ⟨g, 0, none⟩) L.length cap, .int .i64 K, .slice (some ⟨wc.heap.size, 0, none⟩) 1 1] W' fun e w3 =>
                ∃ g1 cap1, e = .returned (.slice (some ⟨g1, 0, none⟩) (L.length + 1) cap1) ∧ Row w3 B (.slice (some ⟨g1, 0, none⟩) (L.length + 1) cap1) (L.take K ++ x.zero :: L.drop K) ∧ Kept (fun k => Value.ownBlock (.slice (some ⟨g, 0, none⟩) L.length cap) = some k) wc w3 ∧ (Value.ownBlock (.slice (some ⟨g, 0, none⟩) L.length cap) = some g1 ∨ wc.heap.size ≤ g1) ∧
                w3.cell? ⟨w.heap.size, 0, none⟩ = some (.pointer (some ⟨S, 0, none⟩)) ∧ w3.cell? ⟨S, 1, none⟩ = some (.slice (some ⟨g, 0, none⟩) L.length cap) ∧ w3.frozen? ⟨S, 1, none⟩ = false ∧ w3.cell? ⟨w.heap.size + 1, 0, none⟩ = some (.int .i64 x.a) ∧ w3.cell? ⟨w.heap.size + 1, 0 + 1, none⟩ = some (.int .i64 x.b) ∧ w3.cell? ⟨w.heap.size + 1, 0 + 2, none⟩ = some (.int .i64 x.c) from by
              intro W' hb ho
              have hsz := hb.size
              have hlt : wc.heap.size < W'.heap.size := (Array.getElem?_eq_some_iff.1 ho).1
              refine (iInsert B K (.slice (some ⟨g, 0, none⟩) L.length cap) L x.zero wc.heap.size W' (by omega) (by omega) (by omega) (hR2.out.below hb) ho (by simp [Value.ownBlock]; omega)).mono ?_
              rintro e w3 ⟨v1, rfl, hR3, hG3, hO3⟩
              have hln : (L.take K ++ x.zero :: L.drop K).length = L.length + 1 := by simp; omega
              obtain ⟨g1, cap1, rfl, _⟩ := rowSome hR3 (by omega)
              rw [hln] at hR3 hO3 ⊢
              have hk : Kept (fun k => Value.ownBlock (.slice (some ⟨g, 0, none⟩) L.length cap) = some k) W' w3 := Kept.of_grown hG3 (fun k hk => hk)
              have hk2 : Kept (fun k => Value.ownBlock (.slice (some ⟨g, 0, none⟩) L.length cap) = some k) wc w3 := (Kept.of_below hb).trans hk
              have hnt : ¬ Value.ownBlock (.slice (some ⟨g, 0, none⟩) L.length cap) = some (w.heap.size + 1) := by simp [Value.ownBlock]; omega
              have htk := TAt.kept (x := x) ⟨t0, t1, t2, t3⟩ hk2 n1 hnt
              refine ⟨g1, cap1, rfl, hR3, hk2, ?_, ?_, ?_, ?_, htk.1, htk.2.1, htk.2.2.1⟩
              · rcases hO3 with h | ⟨g2, h, h2⟩
                · left; exact h.symm
                · right
                  have : g1 = g2 := by simpa [Value.ownBlock] using h
                  omega
              · rw [hk2.cell (p := ⟨w.heap.size, 0, none⟩) (show w.heap.size < wc.heap.size by omega) (by simp [Value.ownBlock]; omega)]; exact r0
              · rw [hk2.cell (p := ⟨S, 1, none⟩) S1 (by simp [Value.ownBlock]; exact hgS)]; exact r1
              · rw [World.frozen?_of_block (a := ⟨S, 1, none⟩) (hk2.block S S1 (by simp [Value.ownBlock]; exact hgS))]; exact fS)
            have HMID := Lib.hid (show ∀ g1 cap1 w3, Row w3 B (.slice (some ⟨g1, 0, none⟩) (L.length + 1) cap1) (L.take K ++ x.zero :: L.drop K) → Kept (fun k => Value.ownBlock (.slice (some ⟨g, 0, none⟩) L.length cap) = some k) wc w3 → (Value.ownBlock (.slice (some ⟨g, 0, none⟩) L.length cap) = some g1 ∨ wc.heap.size ≤ g1) →
                MidW B S p (.slice (some ⟨g, 0, none⟩) L.length cap) x L w (w3.setCell ⟨S, 1, none⟩ (.slice (some ⟨g1, 0, none⟩) (L.length + 1) cap1)) from fun g1 cap1 w3 hR3 hk hg => by
              have e : insT x L = L.take K ++ x.zero :: L.drop K := by unfold insT; rw [if_neg (by rw [HH.out]; simp), ← HKE.out]
              exact MidW.of_ins hS2.out HPW2.out.bs HPW2.out.bt n1 HB2.out (by simp [Value.ownBlock]; exact hgS) (fun k h => by have e : g = k := by { simpa [Value.ownBlock] using h }; omega) ssz (by rw [e]; simp; omega) (by rw [e]; exact hR3) hk hg)
            have hsK : ∀ o, ((wc.alloc o).drew.cell? ⟨w.heap.size, 0, none⟩ = some (.pointer (some ⟨S, 0, none⟩)) ∧ (wc.alloc o).drew.cell? ⟨S, 1, none⟩ = some (.slice (some ⟨g, 0, none⟩) L.length cap) ∧ (wc.alloc o).drew.cell? ⟨w.heap.size + 1, 0, none⟩ = some (.int .i64 x.a) ∧ (wc.alloc o).drew.cell? ⟨w.heap.size + 1, 0 + 1, none⟩ = some (.int .i64 x.b) ∧ (wc.alloc o).drew.cell? ⟨w.heap.size + 1, 0 + 2, none⟩ = some (.int .i64 x.c)) := fun o =>
              ⟨show (wc.alloc o).cell? ⟨w.heap.size, 0, none⟩ = _ by rw [World.cell?_alloc_past _ _ _ (show w.heap.size < wc.heap.size by omega)]; exact r0,
               show (wc.alloc o).cell? ⟨S, 1, none⟩ = _ by rw [World.cell?_alloc_past _ _ _ (show S < wc.heap.size by omega)]; exact r1,
               show (wc.alloc o).cell? ⟨w.heap.size + 1, 0, none⟩ = _ by rw [World.cell?_alloc_past _ _ _ (show w.heap.size + 1 < wc.heap.size by omega)]; exact t0,
               show (wc.alloc o).cell? ⟨w.heap.size + 1, 0 + 1, none⟩ = _ by rw [World.cell?_alloc_past _ _ _ (show w.heap.size + 1 < wc.heap.size by omega)]; exact t1,
               show (wc.alloc o).cell? ⟨w.heap.size + 1, 0 + 2, none⟩ = _ by rw [World.cell?_alloc_past _ _ _ (show w.heap.size + 1 < wc.heap.size by omega)]; exact t2⟩
            have HSK := Lib.hid hsK
            clear hsK
            refine wp_region_seq [(0, true), (1, true), (2, true), (3, true), (4, true), (5, true), (6, true), (7, true), (8, true), (9, false), (10, false), (11, true), (12, true)] (fun w' => w'.cell? ⟨w.heap.size, 0, none⟩ = some (.pointer (some ⟨S, 0, none⟩)) ∧ w'.cell? ⟨S, 1, none⟩ = some (.slice (some ⟨g, 0, none⟩) L.length cap) ∧ w'.cell? ⟨w.heap.size + 1, 0, none⟩ = some (.int .i64 x.a) ∧ w'.cell? ⟨w.heap.size + 1, 0 + 1, none⟩ = some (.int .i64 x.b) ∧ w'.cell? ⟨w.heap.size + 1, 0 + 2, none⟩ = some (.int .i64 x.c)) (by kernel_rfl) (by kernel_rfl) rfl (by intro c a d v w h; cases d <;> exact h) ⟨r0, r1, t0, t1, t2⟩ ?_
            iterate 9 (refine wpSeq_take (v := ?_) (List.getElem?_toArray.trans rfl) ?_ ?_; rotate_left; (intro w' hSw; (try dsimp only at hSw); go_simp; (try with_reducible rfl)); (try simp only [Act.put, List.setIfInBounds_toArray, List.set_cons_zero, List.set_cons_succ]))
            refine wpSeq_do (List.getElem?_toArray.trans rfl) (fun K hK => ?_)
            go_simp
            refine hK _ _ (HSK.out _) ?_
            clear hK K
            refine wpSeq_do (List.getElem?_toArray.trans rfl) (fun K hK => ?_)
            go_simp
            refine (HIN.out _ (by repeat (first | exact Below.refl _ _ | apply Below.drew | apply below_drewN | (refine Below.alloc ?_ (by first | omega | (simp; omega)) _))) (show OneAt ((wc.alloc (Obj.cells #[.int .i64 x.a, .int .i64 x.b, .int .i64 x.c, .int .i64 0] 91)).drew) wc.heap.size x.zero from heap_alloc_new wc _)).mono ?_
            rintro e w3 ⟨g1, cap1, rfl, hR3, hG3, hO3, k0, k1, k2, k3, k4, k5⟩
            refine hK _ _ ⟨k0, k1, k3, k4, k5⟩ ?_
            clear hK K
            iterate 2 (refine wpSeq_take (v := ?_) (List.getElem?_toArray.trans rfl) ?_ ?_; rotate_left; (intro w' hSw; (try dsimp only at hSw); go_simp; (try with_reducible rfl)); (try simp only [Act.put, List.setIfInBounds_toArray, List.set_cons_zero, List.set_cons_succ]))
            refine wpSeq_nil ?_
            simp only [Exit.then]
            go_wp2_with fail
            go_meet
            case rel => exact HMID.out _ _ _ hR3 hG3 hO3
      case rest =>
        as_aux_lemma =>
          clear HB2 HPW2
          obtain ⟨g1, cap1, hS1, hR1, hbp, hbt, hsz, hkept, hn1, hn2, hn3, hor⟩ := hcut
          have hKM : K < (insT x L).length := by rw [HKE.out]; exact insT_len.2
          have hM : (insT x L).length ≤ 4000 := by have := (insT_len (x := x) (L := L)).1; omega
          have hat : (insT x L).getD K default = ⟨x.a, x.b, x.c, insV x L⟩ := by rw [HKE.out]; exact insT_at
          have HSET := Lib.hid (fun h => (by rw [HKE.out]; exact addT_set HEL.out (isE_iff.1 HXE.out) h : (insT x L).set K ⟨x.a, x.b, x.c, (insV x L + x.t) % p⟩ = addT p x L))
          have HDEL := Lib.hid (fun h => (by rw [HKE.out]; exact addT_del HEL.out (isE_iff.1 HXE.out) h : (insT x L).take K ++ (insT x L).drop (K + 1) = addT p x L))
          have HADD := Lib.hid (addV_is HP.out (insV_el (x := x) (L := L) HP.out HEL.out) HXE.out)
          obtain ⟨L1, hL1⟩ : ∃ L1, L1 = insT x L := ⟨_, rfl⟩
          obtain ⟨t0, ht0⟩ : ∃ t0, t0 = insV x L := ⟨_, rfl⟩
          rw [← hL1, ← ht0] at HSET
          rw [← hL1, ← ht0] at HDEL
          rw [← ht0] at HADD
          rw [← hL1] at hS1 hR1 hKM hM hat
          rw [← ht0] at hat
          clear hL1 ht0
          have hKp : (K : Int) < (L1.length : Int) := by omega
          have hK0 : (0 : Int) ≤ (K : Int) := by omega
          have hg1w : g1 < wc.heap.size := (World.ownsRow.lt hR1 g1 rfl).2
          have HS1 := Lib.hid hS1
          have HR1 := Lib.hid hR1
          have HKP := Lib.hid hkept
          have HF := Lib.hid (show ∀ w', Below wc.heap.size wc w' → (w'.cell? ⟨w.heap.size, 0, none⟩ = some (.pointer (some ⟨S, 0, none⟩)) ∧ w'.cell? ⟨S, 0, none⟩ = some (.int .i64 p) ∧ w'.cell? ⟨S, 1, none⟩ = some (.slice (some ⟨g1, 0, none⟩) L1.length cap1)) ∧ TAt w' g1 (K * 4) ⟨x.a, x.b, x.c, t0⟩ ∧ TAt w' (w.heap.size + 1) 0 x from fun w' hb =>
            ⟨⟨by rw [hb.cell (p := ⟨w.heap.size, 0, none⟩) (show w.heap.size < wc.heap.size by omega)]; exact hbp, (HS1.out.below hb).c0, (HS1.out.below hb).c1⟩, by rw [← hat]; exact (HR1.out.below hb).tat rfl hKM, hbt.below hb hsz⟩)
          clear hS1 hR1 hkept hbp hbt
          go_upto_region 4 with fail
          refine wp_region_below (by kernel_rfl) (by kernel_rfl) ?_
          (with_reducible refine wpQuiet_yes ?_ ?_; (focus (kernel_rfl)); intro K hK; go_simp; refine ⟨(.pointer (some ⟨S, 0, none⟩)), ?_, ?_⟩; rotate_left; with_reducible refine hK _ ?_; clear hK K; rotate_left)
          · intro w' hw
            simp only [(HF.out w' hw).1.1, go_sem, Result.andThen, and_self]
          (with_reducible refine wpQuiet_yes ?_ ?_; (focus (kernel_rfl)); intro K hK; go_simp; refine ⟨_, fun _ _ => rfl, ?_⟩; with_reducible refine hK _ ?_; clear hK K)
          (with_reducible refine wpQuiet_yes ?_ ?_; (focus (kernel_rfl)); intro K hK; go_simp; refine ⟨_, fun _ _ => rfl, ?_⟩; with_reducible refine hK _ ?_; clear hK K)
          (with_reducible refine wpQuiet_yes ?_ ?_; (focus (kernel_rfl)); intro K hK; go_simp; refine ⟨(.int .i64 p), ?_, ?_⟩; rotate_left; with_reducible refine hK _ ?_; clear hK K; rotate_left)
          · intro w' hw
            simp only [(HF.out w' hw).1.2.1, go_sem, Result.andThen, and_self]
          (with_reducible refine wpQuiet_yes ?_ ?_; (focus (kernel_rfl)); intro K hK; go_simp; refine ⟨(.pointer (some ⟨S, 0, none⟩)), ?_, ?_⟩; rotate_left; with_reducible refine hK _ ?_; clear hK K; rotate_left)
          · intro w' hw
            simp only [(HF.out w' hw).1.1, go_sem, Result.andThen, and_self]
          (with_reducible refine wpQuiet_yes ?_ ?_; (focus (kernel_rfl)); intro K hK; go_simp; refine ⟨_, fun _ _ => rfl, ?_⟩; with_reducible refine hK _ ?_; clear hK K)
          (with_reducible refine wpQuiet_yes ?_ ?_; (focus (kernel_rfl)); intro K hK; go_simp; refine ⟨_, fun _ _ => rfl, ?_⟩; with_reducible refine hK _ ?_; clear hK K)
          (with_reducible refine wpQuiet_yes ?_ ?_; (focus (kernel_rfl)); intro K hK; go_simp; refine ⟨(.slice (some ⟨g1, 0, none⟩) L1.length cap1), ?_, ?_⟩; rotate_left; with_reducible refine hK _ ?_; clear hK K; rotate_left)
          · intro w' hw
            simp only [(HF.out w' hw).1.2.2, go_sem, Result.andThen, and_self]
          (with_reducible refine wpQuiet_yes ?_ ?_; (focus (kernel_rfl)); intro K hK; go_simp; refine ⟨_, fun _ _ => rfl, ?_⟩; with_reducible refine hK _ ?_; clear hK K)
          (with_reducible refine wpQuiet_yes ?_ ?_; (focus (kernel_rfl)); intro K hK; go_simp; refine ⟨_, fun _ _ => rfl, ?_⟩; with_reducible refine hK _ ?_; clear hK K)
          (with_reducible refine wpQuiet_yes ?_ ?_; (focus (kernel_rfl)); intro K hK; go_simp; refine ⟨_, fun _ _ => rfl, ?_⟩; with_reducible refine hK _ ?_; clear hK K)
          (with_reducible refine wpQuiet_yes ?_ ?_; (focus (kernel_rfl)); intro K hK; go_simp; refine ⟨(.int .i64 t0), ?_, ?_⟩; rotate_left; with_reducible refine hK _ ?_; clear hK K; rotate_left)
          · intro w' hw
            simp only [(HF.out w' hw).2.1.2.2.2, go_sem, Result.andThen, and_self]
          (with_reducible refine wpQuiet_yes ?_ ?_; (focus (kernel_rfl)); intro K hK; go_simp; refine ⟨_, fun _ _ => rfl, ?_⟩; with_reducible refine hK _ ?_; clear hK K)
          (with_reducible refine wpQuiet_yes ?_ ?_; (focus (kernel_rfl)); intro K hK; go_simp; refine ⟨(.int .i64 x.t), ?_, ?_⟩; rotate_left; with_reducible refine hK _ ?_; clear hK K; rotate_left)
          · intro w' hw
            obtain ⟨c0, c1, c2, c3⟩ := (HF.out w' hw).2.2
            simp only [Nat.zero_add] at c3
            simp only [c3, go_sem, Result.andThen, and_self]
          (with_reducible refine wpQuiet_yes ?_ ?_; (focus (kernel_rfl)); intro K hK; go_simp; refine ⟨(.int .i64 (addV p t0 x.t)), ?_, ?_⟩; rotate_left; with_reducible refine hK _ ?_; clear hK K; rotate_left)
          · intro w' hw
            exact (iAdd p t0 x.t _).mono fun e w'' ⟨he, h⟩ => ⟨he, hw.trans (h.mono hw.size)⟩
          (with_reducible refine wpQuiet_yes ?_ ?_; (focus (kernel_rfl)); intro K hK; go_simp; refine ⟨_, fun _ _ => rfl, ?_⟩; with_reducible refine hK _ ?_; clear hK K)
          refine wpQuiet_nil fun w4 hb4 => ?_
          rw [HADD.out]
          obtain ⟨sm, hsm⟩ : ∃ sm, sm = (t0 + x.t) % p := ⟨_, rfl⟩
          rw [← hsm] at HSET HDEL ⊢
          clear hsm
          obtain ⟨⟨e0, e1, e2⟩, ⟨f0, f1, f2, f3⟩, _⟩ := HF.out w4 hb4
          have hS4 := HS1.out.below hb4
          have hR4 := HR1.out.below hb4
          have hfz := World.ownsRow.frozenAt hR4 (K * 4 + 3)
          have HK4 := Lib.hid ((HKP.out).trans (Kept.of_below hb4))
          have h4s := hb4.size
          have HR5 := Lib.hid (Row.setT hR4 hKM hat sm)
          have HS5 := Lib.hid (show SumW (w4.setCell ⟨g1, K * 4 + 3, none⟩ (.int .i64 sm)) S p (.slice (some ⟨g1, 0, none⟩) L1.length cap1) from by
            refine ⟨?_, ?_, ?_, ?_, by simpa using hS4.sz⟩
            · rw [World.cell?_setCell_other _ _ _ _ (by simp <;> omega)]; exact hS4.c0
            · rw [World.cell?_setCell_other _ _ _ _ (by simp <;> omega)]; exact hS4.c1
            · rw [World.frozen?_setCell]; exact hS4.f0
            · rw [World.frozen?_setCell]; exact hS4.f1)
          have HK5 := Lib.hid (show Kept (fun k => k = S ∨ Value.ownBlock (.slice (some ⟨g, 0, none⟩) L.length cap) = some k) w (w4.setCell ⟨g1, K * 4 + 3, none⟩ (.int .i64 sm)) from HK4.out.set (hor.elim (fun h => .inl (.inr h)) .inr) _)
          have hp5 : (w4.setCell ⟨g1, K * 4 + 3, none⟩ (.int .i64 sm)).cell? ⟨w.heap.size, 0, none⟩ = some (.pointer (some ⟨S, 0, none⟩)) := by rw [World.cell?_setCell_other _ _ _ _ (by simp <;> omega)]; exact e0
          clear hS4 hR4 hb4 hat
          simp only [Exit.then]
          go_upto_if 70 with fail
          obtain ⟨W5, hW5⟩ : ∃ W5, W5 = w4.setCell ⟨g1, K * 4 + 3, none⟩ (.int .i64 sm) := ⟨_, rfl⟩
          rw [← hW5] at HR5
          rw [← hW5] at HS5
          rw [← hW5] at HK5
          rw [← hW5] at hp5
          rw [← hW5]
          clear hW5 e0 e1 e2 f0 f1 f2 f3
          by_cases hz : sm = 0
          · have HZ := Lib.hid hz
            have s1 := HS5.out.c1
            have sf := HS5.out.f1
            have sw := HS5.out.sz
            have hDL := Lib.hid (show ∀ n, Calls Try.prog 139 #[.slice (some ⟨g1, 0, none⟩) L1.length cap1, .int .i64 K, .int .i64 ((K : Int) + 1)] (W5.drewN n) fun e w' =>
                e = .returned (.slice (some ⟨g1, 0, none⟩) (L1.length - 1) cap1) ∧ Row w' B (.slice (some ⟨g1, 0, none⟩) (L1.length - 1) cap1) (addT p x L) ∧ (W5.drewN n).grownBy w' (some g1) ∧ w'.cell? ⟨w.heap.size, 0, none⟩ = some (.pointer (some ⟨S, 0, none⟩)) ∧ w'.cell? ⟨S, 1, none⟩ = some (.slice (some ⟨g1, 0, none⟩) L1.length cap1) ∧ w'.frozen? ⟨S, 1, none⟩ = false from fun n => by
              have hl1 : (L1.set K ⟨x.a, x.b, x.c, sm⟩).length = L1.length := List.length_set
              have hr : Row (W5.drewN n) B (.slice (some ⟨g1, 0, none⟩) (L1.set K ⟨x.a, x.b, x.c, sm⟩).length cap1) (L1.set K ⟨x.a, x.b, x.c, sm⟩) := by
                rw [hl1]; exact HR5.out.below (below_drewN (Below.refl _ _) n)
              have := iDelete B g1 cap1 K (L1.set K ⟨x.a, x.b, x.c, sm⟩) (W5.drewN n) (by omega) (by omega) hr
              rw [hl1, take_set_same, drop_set_same, HDEL.out HZ.out] at this
              refine this.mono fun e w' ⟨h1, h2, h3⟩ => ⟨h1, h2, h3, ?_, ?_, ?_⟩
              · have hb5 : w.heap.size < W5.heap.size := World.block_lt_of_cell? W5 _ hp5
                rw [World.cell?_of_block (a := ⟨w.heap.size, 0, none⟩) (h3.block w.heap.size hb5 (by simp; omega))]; exact hp5
              · rw [World.cell?_of_block (a := ⟨S, 1, none⟩) (h3.block S sw (by simp; omega))]; exact s1
              · rw [World.frozen?_of_block (a := ⟨S, 1, none⟩) (h3.block S sw (by simp; omega))]; exact sf)
            have hw1 : IntKind.i64.wrap ((K : Int) + 1) = (K : Int) + 1 := by rw [IntKind.wrap_i64]; omega
            subst hz
            go_upto_region 7 with fail
            have hnS : w.heap.size ≠ S := by omega
            have hnS3 : S ≠ w.heap.size := by omega
            go_region_with
              (first
                | (go_at_call 139; refine (hDL.out 1).mono ?_; rintro e w6 ⟨rfl, hR6, hG6, k0, k1, k2⟩))
            all_goals
              go_wp2_with fail
              refine bodyPost_ret (v := .tuple #[]) (by simp [results, Try.results104, go_sem]) rfl ⟨rfl, .slice (some ⟨g1, 0, none⟩) (L1.length - 1) cap1, ?_, ?_, ?_, ?_, ?_⟩
              · have hh := hG6.block S sw (by simp; omega)
                exact SumW.set (v := .slice (some ⟨g1, 0, none⟩) L1.length cap1) ⟨by rw [World.cell?_of_block (a := ⟨S, 0, none⟩) hh]; exact HS5.out.c0, k1, by rw [World.frozen?_of_block (a := ⟨S, 0, none⟩) hh]; exact HS5.out.f0, k2, by have := hG6.size; simp at this; omega⟩ _
              · exact hR6.kept (Kept.set (K := fun k => k = S) (Kept.refl _ _) (p := ⟨S, 1, none⟩) (.inl rfl) _) hn1
              · simp [Value.ownBlock]; exact hn1
              · have q : Kept (fun k => k = S ∨ Value.ownBlock (.slice (some ⟨g, 0, none⟩) L.length cap) = some k) w w6 := Kept.grown_on (w := W5.drewN 1) ⟨HK5.out.os, HK5.out.tape, HK5.out.output, HK5.out.size, HK5.out.block⟩ hG6 (fun k hk hn e => by rcases hor with h | h; exact hn (.inr (by rw [h, e])); omega)
                exact q.set (.inl (.inl rfl)) _
              · exact hor.elim (fun h => .inl (by rw [h]; rfl)) (fun h => .inr ⟨g1, rfl, h⟩)
          · go_wp2_with fail
            have e := HSET.out hz
            refine bodyPost_ret (v := .tuple #[]) (by simp [results, Try.results104, go_sem]) rfl ⟨rfl, .slice (some ⟨g1, 0, none⟩) L1.length cap1, HS5.out, ?_, ?_, HK5.out, ?_⟩
            · have h5 := HR5.out
              rw [e] at h5
              have hl1 : (L1.set K ⟨x.a, x.b, x.c, sm⟩).length = L1.length := List.length_set
              rw [e] at hl1
              rw [← hl1] at h5 ⊢
              exact h5
            · simp [Value.ownBlock]; exact hn1
            · exact hor.elim (fun h => .inl (by rw [h]; rfl)) (fun h => .inr ⟨g1, rfl, h⟩)
end Go.Proofs.Ytfmpcniehgipfaa
namespace Go.Proofs.Ytfmpcniehgipfaa
open Go.RowKit
theorem iSearch_nil (f : Value) (w : World) : Calls Try.prog 135 #[.int .i64 0, f] w fun e w' => e = .returned (.int .i64 0) ∧ w = w' := by
  go_enter Try.func135, Try.ntmps135
  go_wp2_with fail
  go_loop [5, 6] (fun a b => a = .int .i64 0 ∧ b = .int .i64 0) (fun _ _ => 0)
  case atStart => exact ⟨rfl, rfl⟩
  case round =>
    obtain ⟨rfl, rfl⟩ := hrel
    go_wp2_with fail
    go_ret
    exact ⟨rfl, rfl⟩
set_option maxRecDepth 100000 in
set_option maxHeartbeats 32000000 in
theorem iPutNil (B S : Nat) (p : Int) (x : Trm) (w : World) (hS : SumW w S p (.slice none 0 0)) (hB : B ≤ w.heap.size) (hp : isP p = true) (hx : isE p x.t = true) :
    Calls Try.prog 104 #[.pointer (some ⟨S, 0, none⟩), .agg #[.int .i64 x.a, .int .i64 x.b, .int .i64 x.c, .int .i64 x.t]] w (PutTo B S p (.slice none 0 0) (addT p x []) w) := by
  have HSU := Lib.hid hS
  have HP := Lib.hid hp
  have HXE := Lib.hid hx
  obtain ⟨L, hL⟩ : ∃ L : List Trm, L = [] := ⟨_, rfl⟩
  rw [← hL]
  have HL := Lib.hid hL
  have HEL := Lib.hid (show Els p L by rw [hL]; intro y hy; cases hy)
  obtain ⟨K, hKe⟩ : ∃ K, K = plc x L := ⟨_, rfl⟩
  have HKE := Lib.hid hKe
  have hK0' : K = 0 := by rw [hKe, hL]; rfl
  have hl : L.length ≤ 3999 := by rw [hL]; simp
  have HK0 := Lib.hid hK0'
  have HSN := Lib.hid (show ∀ f w, Calls Try.prog 135 #[.int .i64 0, f] w fun e w' => e = .returned (.int .i64 (K : Int)) ∧ w = w' from fun f w => by
    have := iSearch_nil f w
    rw [show (0 : Int) = ((K : Nat) : Int) by omega] at this
    rw [show (0 : Int) = ((K : Nat) : Int) by omega]
    exact this)
  clear hL hKe hK0'
  obtain ⟨s0, s1, sf0, sf1, ssz⟩ := hS
  have hWs : ∀ W, W = (w.alloc (Obj.cells #[.pointer (some ⟨S, 0, none⟩)] 130)).alloc (Obj.cells #[.int .i64 x.a, .int .i64 x.b, .int .i64 x.c, .int .i64 x.t] 91) → Below w.heap.size w W ∧ w.heap.size + 1 < W.heap.size ∧ W.cell? ⟨w.heap.size, 0, none⟩ = some (.pointer (some ⟨S, 0, none⟩)) ∧ TAt W (w.heap.size + 1) 0 x := fun W hW =>
    ⟨by rw [hW]; exact Below.alloc (Below.alloc (Below.refl _ _) (Nat.le_refl _) _) (by simp) _, by rw [hW]; simp, by rw [hW]; simp [go_sem], by rw [hW]; refine ⟨?_, ?_, ?_, ?_⟩ <;> simp [go_sem]⟩
  have HWS := Lib.hid hWs
  clear hp hx hWs
  go_enter Try.func104, Try.ntmps104
  go_upto_region 2 with (go_at_call 135; refine (HSN.out _ _).mono ?_; rintro e w1 ⟨rfl, rfl⟩)
  obtain ⟨W, hW⟩ : ∃ W, W = (w.alloc (Obj.cells #[.pointer (some ⟨S, 0, none⟩)] 130)).alloc (Obj.cells #[.int .i64 x.a, .int .i64 x.b, .int .i64 x.c, .int .i64 x.t] 91) := ⟨_, rfl⟩
  have HWW := Lib.hid (HWS.out W hW)
  rw [← hW]
  clear hW s0 s1 sf0 sf1
  have HF := Lib.hid (show ∀ w', Below W.heap.size W w' → w'.cell? ⟨w.heap.size, 0, none⟩ = some (.pointer (some ⟨S, 0, none⟩)) ∧ w'.cell? ⟨S, 1, none⟩ = some (.slice none 0 0) from fun w' hb => by
    have hb1 := HWW.out.1.size
    have hb2 := HWW.out.2.1
    exact ⟨by rw [hb.cell (p := ⟨w.heap.size, 0, none⟩) (show w.heap.size < W.heap.size by omega)]; exact HWW.out.2.2.1, ((HSU.out.below HWW.out.1).below hb).c1⟩)
  refine wp_region_below (by kernel_rfl) (by kernel_rfl) ?_
  (with_reducible refine wpQuiet_yes ?_ ?_; (focus (kernel_rfl)); intro K hK; go_simp; refine ⟨_, fun _ _ => rfl, ?_⟩; with_reducible refine hK _ ?_; clear hK K)
  (with_reducible refine wpQuiet_yes ?_ ?_; (focus (kernel_rfl)); intro K hK; go_simp; refine ⟨(.pointer (some ⟨S, 0, none⟩)), ?_, ?_⟩; rotate_left; with_reducible refine hK _ ?_; clear hK K; rotate_left)
  · intro w' hw
    simp only [(HF.out w' hw).1, go_sem, Result.andThen, and_self]
  (with_reducible refine wpQuiet_yes ?_ ?_; (focus (kernel_rfl)); intro K hK; go_simp; refine ⟨_, fun _ _ => rfl, ?_⟩; with_reducible refine hK _ ?_; clear hK K)
  (with_reducible refine wpQuiet_yes ?_ ?_; (focus (kernel_rfl)); intro K hK; go_simp; refine ⟨_, fun _ _ => rfl, ?_⟩; with_reducible refine hK _ ?_; clear hK K)
  (with_reducible refine wpQuiet_yes ?_ ?_; (focus (kernel_rfl)); intro K hK; go_simp; refine ⟨(.slice none 0 0), ?_, ?_⟩; rotate_left; with_reducible refine hK _ ?_; clear hK K; rotate_left)
  · intro w' hw
    simp only [(HF.out w' hw).2, go_sem, Result.andThen, and_self]
  (with_reducible refine wpQuiet_yes ?_ ?_; (focus (kernel_rfl)); intro K hK; go_simp; refine ⟨_, fun _ _ => rfl, ?_⟩; with_reducible refine hK _ ?_; clear hK K)
  (with_reducible refine wpQuiet_yes ?_ ?_; (focus (kernel_rfl)); intro K hK; go_simp; refine ⟨(.bool true), ?_, ?_⟩; rotate_left; with_reducible refine hK _ ?_; clear hK K; rotate_left)
  · intro w' hw
    have := HK0.out
    simp
    try omega
  (with_reducible refine wpQuiet_yes ?_ ?_; (focus (kernel_rfl)); intro K hK; go_simp; refine ⟨_, fun _ _ => rfl, ?_⟩; with_reducible refine hK _ ?_; clear hK K)
  iterate 11 (with_reducible refine wpQuiet_no ?_ ?_; (focus (kernel_rfl)); intro K hK; go_simp; with_reducible refine hK _ ?_; clear hK K)
  (with_reducible refine wpQuiet_yes ?_ ?_; (focus (kernel_rfl)); intro K hK; go_simp; refine ⟨_, fun _ _ => rfl, ?_⟩; with_reducible refine hK _ ?_; clear hK K)
  refine wpQuiet_nil fun wc hb2 => ?_
  have hn1' := HWW.out.2.1
  have HB2 := Lib.hid (HWW.out.1.trans (hb2.mono HWW.out.1.size))
  have r0 := (HF.out wc hb2).1
  have r1 := (HF.out wc hb2).2
  have HTB := Lib.hid (HWW.out.2.2.2.below hb2 HWW.out.2.1)
  have n1 : w.heap.size + 1 < wc.heap.size := by have := hb2.size; omega
  clear hb2 HF HWW HWS hn1'
  simp only [Exit.then]
  go_upto_if 32 with fail
  go_cut [] from 32 to 45 (fun w' => MidW B S p (.slice none 0 0) x L w w')
  case first =>
    have hS2 := Lib.hid (HSU.out.below HB2.out)
    have fS := hS2.out.f1
    have S1 := hS2.out.sz
    obtain ⟨t0, t1, t2, t3⟩ := HTB.out
    have n0 : w.heap.size < wc.heap.size := by omega
    have hnS : w.heap.size ≠ S := by omega
    have hnS2 : w.heap.size + 1 ≠ S := by omega
    have hnS3 : S ≠ w.heap.size := by omega
    have hnS4 : S ≠ w.heap.size + 1 := by omega
    have e0 : insT x L = [x.zero] := by unfold insT; rw [HL.out]; simp [hit, plc]
    have HIN := Lib.hid (show ∀ W', Below wc.heap.size wc W' → OneAt W' wc.heap.size x.zero → Calls Try.prog 138 #[.slice none 0 0, .int .i64 K, .slice (some ⟨wc.heap.size, 0, none⟩) 1 1] W' fun e w3 =>
        ∃ g1 cap1, e = .returned (.slice (some ⟨g1, 0, none⟩) 1 cap1) ∧ Row w3 B (.slice (some ⟨g1, 0, none⟩) 1 cap1) [x.zero] ∧ Kept (fun k => Value.ownBlock (.slice none 0 0) = some k) wc w3 ∧ wc.heap.size ≤ g1 ∧
        w3.cell? ⟨w.heap.size, 0, none⟩ = some (.pointer (some ⟨S, 0, none⟩)) ∧ w3.cell? ⟨S, 1, none⟩ = some (.slice none 0 0) ∧ w3.frozen? ⟨S, 1, none⟩ = false ∧ w3.cell? ⟨w.heap.size + 1, 0, none⟩ = some (.int .i64 x.a) ∧ w3.cell? ⟨w.heap.size + 1, 0 + 1, none⟩ = some (.int .i64 x.b) ∧ w3.cell? ⟨w.heap.size + 1, 0 + 2, none⟩ = some (.int .i64 x.c) from by
      intro W' hb ho
      have hsz := hb.size
      rw [show ((K : Nat) : Int) = 0 by have := HK0.out; omega]
      refine (insNil B x.zero wc.heap.size W' (by have := HB2.out.size; omega) ho).mono ?_
      rintro e w3 ⟨v1, rfl, hR3, hG3, hO3⟩
      obtain ⟨g1, cap1, rfl, _⟩ := rowSome hR3 (by simp)
      have hk2 : Kept (fun k => Value.ownBlock (.slice none 0 0) = some k) wc w3 := (Kept.of_below hb).trans (Kept.of_grown hG3 (fun k hk => hk))
      have hno : ∀ k : Nat, ¬ Value.ownBlock (.slice none 0 0) = some k := fun k h => by cases h
      have htk := TAt.kept (x := x) ⟨t0, t1, t2, t3⟩ hk2 n1 (hno _)
      refine ⟨g1, cap1, rfl, hR3, hk2, ?_, ?_, ?_, ?_, htk.1, htk.2.1, htk.2.2.1⟩
      · rcases hO3 with h | ⟨g2, h, h2⟩
        · cases h
        · have : g1 = g2 := by simpa [Value.ownBlock] using h
          omega
      · rw [hk2.cell (p := ⟨w.heap.size, 0, none⟩) n0 (hno _)]; exact r0
      · rw [hk2.cell (p := ⟨S, 1, none⟩) S1 (hno _)]; exact r1
      · rw [World.frozen?_of_block (a := ⟨S, 1, none⟩) (hk2.block S S1 (hno _))]; exact fS)
    have HMID := Lib.hid (show ∀ g1 cap1 w3, Row w3 B (.slice (some ⟨g1, 0, none⟩) 1 cap1) [x.zero] → Kept (fun k => Value.ownBlock (.slice none 0 0) = some k) wc w3 → wc.heap.size ≤ g1 →
        MidW B S p (.slice none 0 0) x L w (w3.setCell ⟨S, 1, none⟩ (.slice (some ⟨g1, 0, none⟩) 1 cap1)) from fun g1 cap1 w3 hR3 hk hg =>
      MidW.of_ins hS2.out r0 HTB.out n1 HB2.out (by simp [Value.ownBlock]) (fun k h => by cases h) ssz (by rw [e0]; rfl) (by rw [e0]; exact hR3) hk (.inr hg))
    have hfa : ∀ o, (wc.alloc o).frozen? ⟨S, 1, none⟩ = false := fun o => by
      rw [World.frozen?_of_block (w := wc) (a := ⟨S, 1, none⟩) (heap_alloc_old wc o S1)]; exact fS
    have hfb : ∀ o, (wc.alloc o).drew.frozen? ⟨S, 1, none⟩ = false := hfa
    clear e0
    go_wp2_with fail
    have hsK : ∀ o, ((wc.alloc o).drew.cell? ⟨w.heap.size, 0, none⟩ = some (.pointer (some ⟨S, 0, none⟩)) ∧ (wc.alloc o).drew.cell? ⟨S, 1, none⟩ = some (.slice none 0 0) ∧ (wc.alloc o).drew.cell? ⟨w.heap.size + 1, 0, none⟩ = some (.int .i64 x.a) ∧ (wc.alloc o).drew.cell? ⟨w.heap.size + 1, 0 + 1, none⟩ = some (.int .i64 x.b) ∧ (wc.alloc o).drew.cell? ⟨w.heap.size + 1, 0 + 2, none⟩ = some (.int .i64 x.c)) := fun o =>
      ⟨show (wc.alloc o).cell? ⟨w.heap.size, 0, none⟩ = _ by rw [World.cell?_alloc_past _ _ _ (show w.heap.size < wc.heap.size by omega)]; exact r0,
       show (wc.alloc o).cell? ⟨S, 1, none⟩ = _ by rw [World.cell?_alloc_past _ _ _ (show S < wc.heap.size by omega)]; exact r1,
       show (wc.alloc o).cell? ⟨w.heap.size + 1, 0, none⟩ = _ by rw [World.cell?_alloc_past _ _ _ (show w.heap.size + 1 < wc.heap.size by omega)]; exact t0,
       show (wc.alloc o).cell? ⟨w.heap.size + 1, 0 + 1, none⟩ = _ by rw [World.cell?_alloc_past _ _ _ (show w.heap.size + 1 < wc.heap.size by omega)]; exact t1,
       show (wc.alloc o).cell? ⟨w.heap.size + 1, 0 + 2, none⟩ = _ by rw [World.cell?_alloc_past _ _ _ (show w.heap.size + 1 < wc.heap.size by omega)]; exact t2⟩
    have HSK := Lib.hid hsK
    clear hsK
    refine wp_region_seq [(0, true), (1, true), (2, true), (3, true), (4, true), (5, true), (6, true), (7, true), (8, true), (9, false), (10, false), (11, true), (12, true)] (fun w' => w'.cell? ⟨w.heap.size, 0, none⟩ = some (.pointer (some ⟨S, 0, none⟩)) ∧ w'.cell? ⟨S, 1, none⟩ = some (.slice none 0 0) ∧ w'.cell? ⟨w.heap.size + 1, 0, none⟩ = some (.int .i64 x.a) ∧ w'.cell? ⟨w.heap.size + 1, 0 + 1, none⟩ = some (.int .i64 x.b) ∧ w'.cell? ⟨w.heap.size + 1, 0 + 2, none⟩ = some (.int .i64 x.c)) (by kernel_rfl) (by kernel_rfl) rfl (by intro c a d v w h; cases d <;> exact h) ⟨r0, r1, t0, t1, t2⟩ ?_
    iterate 9 (refine wpSeq_take (v := ?_) (List.getElem?_toArray.trans rfl) ?_ ?_; rotate_left; (intro w' hSw; (try dsimp only at hSw); go_simp; (try with_reducible rfl)); (try simp only [Act.put, List.setIfInBounds_toArray, List.set_cons_zero, List.set_cons_succ]))
    refine wpSeq_do (List.getElem?_toArray.trans rfl) (fun K hK => ?_)
    go_simp
    refine hK _ _ (HSK.out _) ?_
    clear hK K
    refine wpSeq_do (List.getElem?_toArray.trans rfl) (fun K hK => ?_)
    go_simp
    refine (HIN.out _ (by repeat (first | exact Below.refl _ _ | apply Below.drew | apply below_drewN | (refine Below.alloc ?_ (by first | omega | (simp; omega)) _))) (show OneAt ((wc.alloc (Obj.cells #[.int .i64 x.a, .int .i64 x.b, .int .i64 x.c, .int .i64 0] 91)).drew) wc.heap.size x.zero from heap_alloc_new wc _)).mono ?_
    rintro e w3 ⟨g1, cap1, rfl, hR3, hG3, hO3, k0, k1, k2, k3, k4, k5⟩
    refine hK _ _ ⟨k0, k1, k3, k4, k5⟩ ?_
    clear hK K
    iterate 2 (refine wpSeq_take (v := ?_) (List.getElem?_toArray.trans rfl) ?_ ?_; rotate_left; (intro w' hSw; (try dsimp only at hSw); go_simp; (try with_reducible rfl)); (try simp only [Act.put, List.setIfInBounds_toArray, List.set_cons_zero, List.set_cons_succ]))
    refine wpSeq_nil ?_
    simp only [Exit.then]
    go_wp2_with fail
    go_meet
    case rel => exact HMID.out _ _ _ hR3 hG3 hO3
  case rest =>
    clear HB2 r0 r1 HTB n1
    obtain ⟨g1, cap1, hS1, hR1, hbp, hbt, hsz, hkept, hn1, hn2, hn3, hor⟩ := hcut
    have hKM : K < (insT x L).length := by rw [HKE.out]; exact insT_len.2
    have hM : (insT x L).length ≤ 4000 := by have := (insT_len (x := x) (L := L)).1; omega
    have hat : (insT x L).getD K default = ⟨x.a, x.b, x.c, insV x L⟩ := by rw [HKE.out]; exact insT_at
    have HSET := Lib.hid (fun h => (by rw [HKE.out]; exact addT_set HEL.out (isE_iff.1 HXE.out) h : (insT x L).set K ⟨x.a, x.b, x.c, (insV x L + x.t) % p⟩ = addT p x L))
    have HDEL := Lib.hid (fun h => (by rw [HKE.out]; exact addT_del HEL.out (isE_iff.1 HXE.out) h : (insT x L).take K ++ (insT x L).drop (K + 1) = addT p x L))
    have HADD := Lib.hid (addV_is HP.out (insV_el (x := x) (L := L) HP.out HEL.out) HXE.out)
    obtain ⟨L1, hL1⟩ : ∃ L1, L1 = insT x L := ⟨_, rfl⟩
    obtain ⟨t0, ht0⟩ : ∃ t0, t0 = insV x L := ⟨_, rfl⟩
    rw [← hL1, ← ht0] at HSET
    rw [← hL1, ← ht0] at HDEL
    rw [← ht0] at HADD
    rw [← hL1] at hS1 hR1 hKM hM hat
    rw [← ht0] at hat
    clear hL1 ht0
    have hKp : (K : Int) < (L1.length : Int) := by omega
    have hK0 : (0 : Int) ≤ (K : Int) := by omega
    have hg1w : g1 < wc.heap.size := (World.ownsRow.lt hR1 g1 rfl).2
    have HS1 := Lib.hid hS1
    have HR1 := Lib.hid hR1
    have HKP := Lib.hid hkept
    have HF := Lib.hid (show ∀ w', Below wc.heap.size wc w' → (w'.cell? ⟨w.heap.size, 0, none⟩ = some (.pointer (some ⟨S, 0, none⟩)) ∧ w'.cell? ⟨S, 0, none⟩ = some (.int .i64 p) ∧ w'.cell? ⟨S, 1, none⟩ = some (.slice (some ⟨g1, 0, none⟩) L1.length cap1)) ∧ TAt w' g1 (K * 4) ⟨x.a, x.b, x.c, t0⟩ ∧ TAt w' (w.heap.size + 1) 0 x from fun w' hb =>
      ⟨⟨by rw [hb.cell (p := ⟨w.heap.size, 0, none⟩) (show w.heap.size < wc.heap.size by omega)]; exact hbp, (HS1.out.below hb).c0, (HS1.out.below hb).c1⟩, by rw [← hat]; exact (HR1.out.below hb).tat rfl hKM, hbt.below hb hsz⟩)
    clear hS1 hR1 hkept hbp hbt
    go_upto_region 4 with fail
    refine wp_region_below (by kernel_rfl) (by kernel_rfl) ?_
    (with_reducible refine wpQuiet_yes ?_ ?_; (focus (kernel_rfl)); intro K hK; go_simp; refine ⟨(.pointer (some ⟨S, 0, none⟩)), ?_, ?_⟩; rotate_left; with_reducible refine hK _ ?_; clear hK K; rotate_left)
    · intro w' hw
      simp only [(HF.out w' hw).1.1, go_sem, Result.andThen, and_self]
    (with_reducible refine wpQuiet_yes ?_ ?_; (focus (kernel_rfl)); intro K hK; go_simp; refine ⟨_, fun _ _ => rfl, ?_⟩; with_reducible refine hK _ ?_; clear hK K)
    (with_reducible refine wpQuiet_yes ?_ ?_; (focus (kernel_rfl)); intro K hK; go_simp; refine ⟨_, fun _ _ => rfl, ?_⟩; with_reducible refine hK _ ?_; clear hK K)
    (with_reducible refine wpQuiet_yes ?_ ?_; (focus (kernel_rfl)); intro K hK; go_simp; refine ⟨(.int .i64 p), ?_, ?_⟩; rotate_left; with_reducible refine hK _ ?_; clear hK K; rotate_left)
    · intro w' hw
      simp only [(HF.out w' hw).1.2.1, go_sem, Result.andThen, and_self]
    (with_reducible refine wpQuiet_yes ?_ ?_; (focus (kernel_rfl)); intro K hK; go_simp; refine ⟨(.pointer (some ⟨S, 0, none⟩)), ?_, ?_⟩; rotate_left; with_reducible refine hK _ ?_; clear hK K; rotate_left)
    · intro w' hw
      simp only [(HF.out w' hw).1.1, go_sem, Result.andThen, and_self]
    (with_reducible refine wpQuiet_yes ?_ ?_; (focus (kernel_rfl)); intro K hK; go_simp; refine ⟨_, fun _ _ => rfl, ?_⟩; with_reducible refine hK _ ?_; clear hK K)
    (with_reducible refine wpQuiet_yes ?_ ?_; (focus (kernel_rfl)); intro K hK; go_simp; refine ⟨_, fun _ _ => rfl, ?_⟩; with_reducible refine hK _ ?_; clear hK K)
    (with_reducible refine wpQuiet_yes ?_ ?_; (focus (kernel_rfl)); intro K hK; go_simp; refine ⟨(.slice (some ⟨g1, 0, none⟩) L1.length cap1), ?_, ?_⟩; rotate_left; with_reducible refine hK _ ?_; clear hK K; rotate_left)
    · intro w' hw
      simp only [(HF.out w' hw).1.2.2, go_sem, Result.andThen, and_self]
    (with_reducible refine wpQuiet_yes ?_ ?_; (focus (kernel_rfl)); intro K hK; go_simp; refine ⟨_, fun _ _ => rfl, ?_⟩; with_reducible refine hK _ ?_; clear hK K)
    (with_reducible refine wpQuiet_yes ?_ ?_; (focus (kernel_rfl)); intro K hK; go_simp; refine ⟨_, fun _ _ => rfl, ?_⟩; with_reducible refine hK _ ?_; clear hK K)
    (with_reducible refine wpQuiet_yes ?_ ?_; (focus (kernel_rfl)); intro K hK; go_simp; refine ⟨_, fun _ _ => rfl, ?_⟩; with_reducible refine hK _ ?_; clear hK K)
    (with_reducible refine wpQuiet_yes ?_ ?_; (focus (kernel_rfl)); intro K hK; go_simp; refine ⟨(.int .i64 t0), ?_, ?_⟩; rotate_left; with_reducible refine hK _ ?_; clear hK K; rotate_left)
    · intro w' hw
      simp only [(HF.out w' hw).2.1.2.2.2, go_sem, Result.andThen, and_self]
    (with_reducible refine wpQuiet_yes ?_ ?_; (focus (kernel_rfl)); intro K hK; go_simp; refine ⟨_, fun _ _ => rfl, ?_⟩; with_reducible refine hK _ ?_; clear hK K)
    (with_reducible refine wpQuiet_yes ?_ ?_; (focus (kernel_rfl)); intro K hK; go_simp; refine ⟨(.int .i64 x.t), ?_, ?_⟩; rotate_left; with_reducible refine hK _ ?_; clear hK K; rotate_left)
    · intro w' hw
      obtain ⟨c0, c1, c2, c3⟩ := (HF.out w' hw).2.2
      simp only [Nat.zero_add] at c3
      simp only [c3, go_sem, Result.andThen, and_self]
    (with_reducible refine wpQuiet_yes ?_ ?_; (focus (kernel_rfl)); intro K hK; go_simp; refine ⟨(.int .i64 (addV p t0 x.t)), ?_, ?_⟩; rotate_left; with_reducible refine hK _ ?_; clear hK K; rotate_left)
    · intro w' hw
      exact (iAdd p t0 x.t _).mono fun e w'' ⟨he, h⟩ => ⟨he, hw.trans (h.mono hw.size)⟩
    (with_reducible refine wpQuiet_yes ?_ ?_; (focus (kernel_rfl)); intro K hK; go_simp; refine ⟨_, fun _ _ => rfl, ?_⟩; with_reducible refine hK _ ?_; clear hK K)
    refine wpQuiet_nil fun w4 hb4 => ?_
    rw [HADD.out]
    obtain ⟨sm, hsm⟩ : ∃ sm, sm = (t0 + x.t) % p := ⟨_, rfl⟩
    rw [← hsm] at HSET HDEL ⊢
    clear hsm
    obtain ⟨⟨e0, e1, e2⟩, ⟨f0, f1, f2, f3⟩, _⟩ := HF.out w4 hb4
    have hS4 := HS1.out.below hb4
    have hR4 := HR1.out.below hb4
    have hfz := World.ownsRow.frozenAt hR4 (K * 4 + 3)
    have HK4 := Lib.hid ((HKP.out).trans (Kept.of_below hb4))
    have h4s := hb4.size
    have HR5 := Lib.hid (Row.setT hR4 hKM hat sm)
    have HS5 := Lib.hid (show SumW (w4.setCell ⟨g1, K * 4 + 3, none⟩ (.int .i64 sm)) S p (.slice (some ⟨g1, 0, none⟩) L1.length cap1) from by
      refine ⟨?_, ?_, ?_, ?_, by simpa using hS4.sz⟩
      · rw [World.cell?_setCell_other _ _ _ _ (by simp <;> omega)]; exact hS4.c0
      · rw [World.cell?_setCell_other _ _ _ _ (by simp <;> omega)]; exact hS4.c1
      · rw [World.frozen?_setCell]; exact hS4.f0
      · rw [World.frozen?_setCell]; exact hS4.f1)
    have HK5 := Lib.hid (show Kept (fun k => k = S ∨ Value.ownBlock (.slice none 0 0) = some k) w (w4.setCell ⟨g1, K * 4 + 3, none⟩ (.int .i64 sm)) from HK4.out.set (hor.elim (fun h => .inl (.inr h)) .inr) _)
    have hp5 : (w4.setCell ⟨g1, K * 4 + 3, none⟩ (.int .i64 sm)).cell? ⟨w.heap.size, 0, none⟩ = some (.pointer (some ⟨S, 0, none⟩)) := by rw [World.cell?_setCell_other _ _ _ _ (by simp <;> omega)]; exact e0
    clear hS4 hR4 hb4 hat
    simp only [Exit.then]
    go_upto_if 70 with fail
    obtain ⟨W5, hW5⟩ : ∃ W5, W5 = w4.setCell ⟨g1, K * 4 + 3, none⟩ (.int .i64 sm) := ⟨_, rfl⟩
    rw [← hW5] at HR5
    rw [← hW5] at HS5
    rw [← hW5] at HK5
    rw [← hW5] at hp5
    rw [← hW5]
    clear hW5 e0 e1 e2 f0 f1 f2 f3
    by_cases hz : sm = 0
    · have HZ := Lib.hid hz
      have s1 := HS5.out.c1
      have sf := HS5.out.f1
      have sw := HS5.out.sz
      have hDL := Lib.hid (show ∀ n, Calls Try.prog 139 #[.slice (some ⟨g1, 0, none⟩) L1.length cap1, .int .i64 K, .int .i64 ((K : Int) + 1)] (W5.drewN n) fun e w' =>
          e = .returned (.slice (some ⟨g1, 0, none⟩) (L1.length - 1) cap1) ∧ Row w' B (.slice (some ⟨g1, 0, none⟩) (L1.length - 1) cap1) (addT p x L) ∧ (W5.drewN n).grownBy w' (some g1) ∧ w'.cell? ⟨w.heap.size, 0, none⟩ = some (.pointer (some ⟨S, 0, none⟩)) ∧ w'.cell? ⟨S, 1, none⟩ = some (.slice (some ⟨g1, 0, none⟩) L1.length cap1) ∧ w'.frozen? ⟨S, 1, none⟩ = false from fun n => by
        have hl1 : (L1.set K ⟨x.a, x.b, x.c, sm⟩).length = L1.length := List.length_set
        have hr : Row (W5.drewN n) B (.slice (some ⟨g1, 0, none⟩) (L1.set K ⟨x.a, x.b, x.c, sm⟩).length cap1) (L1.set K ⟨x.a, x.b, x.c, sm⟩) := by
          rw [hl1]; exact HR5.out.below (below_drewN (Below.refl _ _) n)
        have := iDelete B g1 cap1 K (L1.set K ⟨x.a, x.b, x.c, sm⟩) (W5.drewN n) (by omega) (by omega) hr
        rw [hl1, take_set_same, drop_set_same, HDEL.out HZ.out] at this
        refine this.mono fun e w' ⟨h1, h2, h3⟩ => ⟨h1, h2, h3, ?_, ?_, ?_⟩
        · have hb5 : w.heap.size < W5.heap.size := World.block_lt_of_cell? W5 _ hp5
          rw [World.cell?_of_block (a := ⟨w.heap.size, 0, none⟩) (h3.block w.heap.size hb5 (by simp; omega))]; exact hp5
        · rw [World.cell?_of_block (a := ⟨S, 1, none⟩) (h3.block S sw (by simp; omega))]; exact s1
        · rw [World.frozen?_of_block (a := ⟨S, 1, none⟩) (h3.block S sw (by simp; omega))]; exact sf)
      have hw1 : IntKind.i64.wrap ((K : Int) + 1) = (K : Int) + 1 := by rw [IntKind.wrap_i64]; omega
      subst hz
      go_upto_region 7 with fail
      have hnS : w.heap.size ≠ S := by omega
      have hnS3 : S ≠ w.heap.size := by omega
      go_region_with
        (first
          | (go_at_call 139; refine (hDL.out 1).mono ?_; rintro e w6 ⟨rfl, hR6, hG6, k0, k1, k2⟩))
      all_goals
        go_wp2_with fail
        refine bodyPost_ret (v := .tuple #[]) (by simp [results, Try.results104, go_sem]) rfl ⟨rfl, .slice (some ⟨g1, 0, none⟩) (L1.length - 1) cap1, ?_, ?_, ?_, ?_, ?_⟩
        · have hh := hG6.block S sw (by simp; omega)
          exact SumW.set (v := .slice (some ⟨g1, 0, none⟩) L1.length cap1) ⟨by rw [World.cell?_of_block (a := ⟨S, 0, none⟩) hh]; exact HS5.out.c0, k1, by rw [World.frozen?_of_block (a := ⟨S, 0, none⟩) hh]; exact HS5.out.f0, k2, by have := hG6.size; simp at this; omega⟩ _
        · exact hR6.kept (Kept.set (K := fun k => k = S) (Kept.refl _ _) (p := ⟨S, 1, none⟩) (.inl rfl) _) hn1
        · simp [Value.ownBlock]; exact hn1
        · have q : Kept (fun k => k = S ∨ Value.ownBlock (.slice none 0 0) = some k) w w6 := Kept.grown_on (w := W5.drewN 1) ⟨HK5.out.os, HK5.out.tape, HK5.out.output, HK5.out.size, HK5.out.block⟩ hG6 (fun k hk hn e => by rcases hor with h | h; exact hn (.inr (by rw [h, e])); omega)
          exact q.set (.inl (.inl rfl)) _
        · exact hor.elim (fun h => .inl (by rw [h]; rfl)) (fun h => .inr ⟨g1, rfl, h⟩)
    · go_wp2_with fail
      have e := HSET.out hz
      refine bodyPost_ret (v := .tuple #[]) (by simp [results, Try.results104, go_sem]) rfl ⟨rfl, .slice (some ⟨g1, 0, none⟩) L1.length cap1, HS5.out, ?_, ?_, HK5.out, ?_⟩
      · have h5 := HR5.out
        rw [e] at h5
        have hl1 : (L1.set K ⟨x.a, x.b, x.c, sm⟩).length = L1.length := List.length_set
        rw [e] at hl1
        rw [← hl1] at h5 ⊢
        exact h5
      · simp [Value.ownBlock]; exact hn1
      · exact hor.elim (fun h => .inl (by rw [h]; rfl)) (fun h => .inr ⟨g1, rfl, h⟩)
/-- put: a term is added to the sum -/
theorem iPut (B S : Nat) (p : Int) (v : Value) (L : List Trm) (x : Trm) (w : World) (hS : SumW w S p v) (hR : Row w B v L) (hB : B ≤ w.heap.size) (hp : isP p = true)
    (hs : Srt L) (he : Els p L) (hx : isE p x.t = true) (hl : L.length ≤ 3999) (hvS : v.ownBlock ≠ some S) :
    Calls Try.prog 104 #[.pointer (some ⟨S, 0, none⟩), .agg #[.int .i64 x.a, .int .i64 x.b, .int .i64 x.c, .int .i64 x.t]] w (PutTo B S p v (addT p x L) w) := by
  rcases hR.shape with ⟨rfl, rfl⟩ | ⟨g, cap, rfl, _⟩
  · exact iPutNil B S p x w hS hB hp hx
  · exact iPutSome B S g cap p L x w hS hR hB hp hs he hx hl (fun e => hvS (by rw [e]; rfl))
end Go.Proofs.Ytfmpcniehgipfaa
namespace Go.Proofs.Ytfmpcniehgipfaa
open Go.RowKit
/-- the world inside multiplied: the first term lies in block n, the other in n + 1, the result in n + 2 -/
structure MulW (n : Nat) (T U : Trm) (w wr : World) : Prop where
  t : TAt wr n 0 T
  u : TAt wr (n + 1) 0 U
  r : ∀ i, i < 4 → ∃ x, wr.cell? ⟨n + 2, i, none⟩ = some x
  ft : ∀ i, wr.frozen? ⟨n, i, none⟩ = false
  fr : ∀ i, wr.frozen? ⟨n + 2, i, none⟩ = false
  sz : n + 2 < wr.heap.size
  low : Below w.heap.size w wr
theorem MulW.below {n : Nat} {T U : Trm} {w wr w1 : World} (h : MulW n T U w wr) (hb : Below wr.heap.size wr w1) : MulW n T U w w1 := by
  have sz := h.sz
  have e := hb.size
  refine ⟨h.t.below hb (by omega), h.u.below hb (by omega), fun i hi => ?_, fun i => ?_, fun i => ?_, by omega, h.low.trans (hb.mono h.low.size)⟩
  · obtain ⟨x, hx⟩ := h.r i hi
    exact ⟨x, by rw [hb.cell (p := ⟨n + 2, i, none⟩) sz]; exact hx⟩
  · rw [hb.frozen (p := ⟨n, i, none⟩) (show n < wr.heap.size by omega)]; exact h.ft i
  · rw [hb.frozen (p := ⟨n + 2, i, none⟩) sz]; exact h.fr i
theorem MulW.other {n i : Nat} {T U : Trm} {w wr : World} (h : MulW n T U w wr) (hn : w.heap.size ≤ n) (v : Value) {T' : Trm} (ht : TAt (wr.setCell ⟨n, i, none⟩ v) n 0 T') : MulW n T' U w (wr.setCell ⟨n, i, none⟩ v) := by
  obtain ⟨u0, u1, u2, u3⟩ := h.u
  refine ⟨ht, ⟨?_, ?_, ?_, ?_⟩, fun j hj => ?_, fun j => ?_, fun j => ?_, by simpa using h.sz, h.low.setCell hn _⟩
  · rw [World.cell?_setCell_other _ _ _ _ (by simp)]; exact u0
  · rw [World.cell?_setCell_other _ _ _ _ (by simp)]; exact u1
  · rw [World.cell?_setCell_other _ _ _ _ (by simp)]; exact u2
  · rw [World.cell?_setCell_other _ _ _ _ (by simp)]; exact u3
  · obtain ⟨x, hx⟩ := h.r j hj
    exact ⟨x, by rw [World.cell?_setCell_other _ _ _ _ (by simp)]; exact hx⟩
  · rw [World.frozen?_setCell]; exact h.ft j
  · rw [World.frozen?_setCell]; exact h.fr j
theorem MulW.s0 {n : Nat} {T U : Trm} {w wr : World} (h : MulW n T U w wr) (hn : w.heap.size ≤ n) (z : Int) : MulW n ⟨z, T.b, T.c, T.t⟩ U w (wr.setCell ⟨n, 0, none⟩ (.int .i64 z)) := by
  obtain ⟨t0, t1, t2, t3⟩ := h.t
  refine h.other hn _ ⟨World.cell?_setCell_same _ _ _ t0, ?_, ?_, ?_⟩
  · rw [World.cell?_setCell_other _ _ _ _ (by simp)]; exact t1
  · rw [World.cell?_setCell_other _ _ _ _ (by simp)]; exact t2
  · rw [World.cell?_setCell_other _ _ _ _ (by simp)]; exact t3
theorem MulW.s1 {n : Nat} {T U : Trm} {w wr : World} (h : MulW n T U w wr) (hn : w.heap.size ≤ n) (z : Int) : MulW n ⟨T.a, z, T.c, T.t⟩ U w (wr.setCell ⟨n, 1, none⟩ (.int .i64 z)) := by
  obtain ⟨t0, t1, t2, t3⟩ := h.t
  refine h.other hn _ ⟨?_, World.cell?_setCell_same _ _ _ t1, ?_, ?_⟩
  · rw [World.cell?_setCell_other _ _ _ _ (by simp)]; exact t0
  · rw [World.cell?_setCell_other _ _ _ _ (by simp)]; exact t2
  · rw [World.cell?_setCell_other _ _ _ _ (by simp)]; exact t3
theorem MulW.s2 {n : Nat} {T U : Trm} {w wr : World} (h : MulW n T U w wr) (hn : w.heap.size ≤ n) (z : Int) : MulW n ⟨T.a, T.b, z, T.t⟩ U w (wr.setCell ⟨n, 2, none⟩ (.int .i64 z)) := by
  obtain ⟨t0, t1, t2, t3⟩ := h.t
  refine h.other hn _ ⟨?_, ?_, World.cell?_setCell_same _ _ _ t2, ?_⟩
  · rw [World.cell?_setCell_other _ _ _ _ (by simp)]; exact t0
  · rw [World.cell?_setCell_other _ _ _ _ (by simp)]; exact t1
  · rw [World.cell?_setCell_other _ _ _ _ (by simp)]; exact t3
theorem MulW.drew {n : Nat} {T U : Trm} {w wr : World} (h : MulW n T U w wr) : MulW n T U w wr.drew := h.below (Below.drew (Below.refl _ _))
set_option maxRecDepth 100000 in
set_option maxHeartbeats 8000000 in
theorem iMulT (p : Int) (T U : Trm) (w : World) (h : (0 ≤ T.a ∧ T.a ≤ 9) ∧ (0 ≤ T.b ∧ T.b ≤ 9) ∧ (0 ≤ T.c ∧ T.c ≤ 9)) (k : (0 ≤ U.a ∧ U.a ≤ 9) ∧ (0 ≤ U.b ∧ U.b ≤ 9) ∧ (0 ≤ U.c ∧ U.c ≤ 9)) :
    Calls Try.prog 105 #[.agg #[.int .i64 T.a, .int .i64 T.b, .int .i64 T.c, .int .i64 T.t], .int .i64 p, .agg #[.int .i64 U.a, .int .i64 U.b, .int .i64 U.c, .int .i64 U.t]] w
      fun e w' => e = .returned (.agg #[.int .i64 (T.a + U.a), .int .i64 (T.b + U.b), .int .i64 (T.c + U.c), .int .i64 (mulV p T.t U.t)]) ∧ Below w.heap.size w w' := by
  obtain ⟨⟨A0, A1⟩, ⟨B0, B1⟩, ⟨C0, C1⟩⟩ := h
  obtain ⟨⟨a0, a1⟩, ⟨b0, b1⟩, ⟨c0, c1⟩⟩ := k
  have wa : IntKind.i64.wrap (T.a + U.a) = T.a + U.a := IntWalk.i64_in _ (by omega)
  have wb : IntKind.i64.wrap (T.b + U.b) = T.b + U.b := IntWalk.i64_in _ (by omega)
  have wc : IntKind.i64.wrap (T.c + U.c) = T.c + U.c := IntWalk.i64_in _ (by omega)
  go_enter Try.func105, Try.ntmps105
  go_wp2_with fail
  obtain ⟨W, hW⟩ : ∃ W, W = ((w.alloc (Obj.cells #[.int .i64 T.a, .int .i64 T.b, .int .i64 T.c, .int .i64 T.t] 91)).alloc (Obj.cells #[.int .i64 U.a, .int .i64 U.b, .int .i64 U.c, .int .i64 U.t] 91)).alloc (Obj.cells #[.int .i64 0, .int .i64 0, .int .i64 0, .int .i64 0] 91) := ⟨_, rfl⟩
  have H := Lib.hid (show MulW w.heap.size T U w W by
    rw [hW]
    refine ⟨⟨?_, ?_, ?_, ?_⟩, ⟨?_, ?_, ?_, ?_⟩, fun i hi => ?_, fun i => ?_, fun i => ?_, by simp, Below.alloc (Below.alloc (Below.alloc (Below.refl _ _) (Nat.le_refl _) _) (by simp) _) (by simp; omega) _⟩
    all_goals first
      | (simp [go_sem]; done)
      | (have : i = 0 ∨ i = 1 ∨ i = 2 ∨ i = 3 := by omega
         rcases this with rfl | rfl | rfl | rfl <;> exact ⟨_, by simp [go_sem]; rfl⟩)
      | (simp [World.frozen?, World.alloc]; done)
      | skip)
  rw [← hW]
  clear hW
  refine wp_loop_rounds 4 ?_
  obtain ⟨⟨t0, t1, t2, t3⟩, ⟨u0, u1, u2, u3⟩, _, ft, _, sz, _⟩ := H.out
  have ft0 := ft 0
  simp only [Nat.zero_add] at t0 t1 t2 t3 u0 u1 u2 u3
  rw [rounds_succ]
  go_wp2_with fail
  refine wp_region_quiet_last (C := fun w' => ∃ n, w' = W.drewN n) (by kernel_rfl) (by kernel_rfl) ⟨1, rfl⟩ ?_
  repeat (refine wpQL_step (fun K hK => ?_); go_simp; refine hK _ ?_; clear hK K)
  refine wpQL_one ?_
  rintro _ ⟨n0, rfl⟩
  go_wp2_with fail
  have H := Lib.hid ((H.out.below (below_drewN (Below.refl _ _) n0)).s0 (Nat.le_refl _) (T.a + U.a))
  clear t0 t1 t2 t3 u0 u1 u2 u3 ft ft0 sz
  generalize ((W.drewN n0).setCell ⟨w.heap.size, 0, none⟩ (.int .i64 (T.a + U.a))) = W1 at H ⊢
  obtain ⟨⟨t0, t1, t2, t3⟩, ⟨u0, u1, u2, u3⟩, _, ft, _, sz, _⟩ := H.out
  have ft1 := ft 1
  simp only [Nat.zero_add] at t0 t1 t2 t3 u0 u1 u2 u3
  rw [rounds_succ]
  go_wp2_with fail
  refine wp_region_quiet_last (C := fun w' => ∃ n, w' = W1.drewN n) (by kernel_rfl) (by kernel_rfl) ⟨1, rfl⟩ ?_
  repeat (refine wpQL_step (fun K hK => ?_); go_simp; refine hK _ ?_; clear hK K)
  refine wpQL_one ?_
  rintro _ ⟨n1, rfl⟩
  go_wp2_with fail
  have H := Lib.hid ((H.out.below (below_drewN (Below.refl _ _) n1)).s1 (Nat.le_refl _) (T.b + U.b))
  clear t0 t1 t2 t3 u0 u1 u2 u3 ft ft1 sz
  generalize ((W1.drewN n1).setCell ⟨w.heap.size, 1, none⟩ (.int .i64 (T.b + U.b))) = W2 at H ⊢
  obtain ⟨⟨t0, t1, t2, t3⟩, ⟨u0, u1, u2, u3⟩, _, ft, _, sz, _⟩ := H.out
  have ft2 := ft 2
  simp only [Nat.zero_add] at t0 t1 t2 t3 u0 u1 u2 u3
  rw [rounds_succ]
  go_wp2_with fail
  refine wp_region_quiet_last (C := fun w' => ∃ n, w' = W2.drewN n) (by kernel_rfl) (by kernel_rfl) ⟨1, rfl⟩ ?_
  repeat (refine wpQL_step (fun K hK => ?_); go_simp; refine hK _ ?_; clear hK K)
  refine wpQL_one ?_
  rintro _ ⟨n2, rfl⟩
  go_wp2_with fail
  have H := Lib.hid ((H.out.below (below_drewN (Below.refl _ _) n2)).s2 (Nat.le_refl _) (T.c + U.c))
  clear t0 t1 t2 t3 u0 u1 u2 u3 ft ft2 sz
  generalize ((W2.drewN n2).setCell ⟨w.heap.size, 2, none⟩ (.int .i64 (T.c + U.c))) = W3 at H ⊢
  obtain ⟨⟨t0, t1, t2, t3⟩, ⟨u0, u1, u2, u3⟩, _, _, _, sz, _⟩ := H.out
  simp only [Nat.zero_add] at t0 t1 t2 t3 u0 u1 u2 u3
  rw [rounds_succ]
  go_wp2_with fail
  refine (iMul p T.t U.t _).mono ?_
  rintro e w4 ⟨rfl, hb4⟩
  clear t0 t1 t2 t3 u0 u1 u2 u3 sz
  have H4 := Lib.hid (H.out.below hb4)
  clear hb4 H
  obtain ⟨⟨t0, t1, t2, t3⟩, _, r, ft, fr, sz, _⟩ := H4.out
  simp only [Nat.zero_add] at t0 t1 t2 t3
  obtain ⟨r0, hr0⟩ := r 0 (by omega)
  obtain ⟨r1, hr1⟩ := r 1 (by omega)
  obtain ⟨r2, hr2⟩ := r 2 (by omega)
  obtain ⟨r3, hr3⟩ := r 3 (by omega)
  have ft3 := ft 3
  have fr0 := fr 0
  have fr1 := fr 1
  have fr2 := fr 2
  have fr3 := fr 3
  clear r ft fr
  go_wp2_with fail
  refine bodyPost_ret (v := .agg #[.int .i64 (T.a + U.a), .int .i64 (T.b + U.b), .int .i64 (T.c + U.c), .int .i64 (mulV p T.t U.t)]) (by simp [results, Try.results105, go_sem, *]) rfl ⟨rfl, ?_⟩
  repeat (first | exact H4.out.low | apply Below.drew | apply below_drewN | (refine Below.setCell ?_ (by first | omega | (simp; done) | (simp; omega)) _))
end Go.Proofs.Ytfmpcniehgipfaa
