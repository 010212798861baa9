/-
  Contracts of the model's draws of chapter 1: each hands back 64-bit integers and writes nothing that was there. Conditions: the bytes can be read.
-/
import Derived.Test.YtajabchbdhjdiaaBe1
import Derived.WalkLawsBesides
namespace Go.Proofs.Ytajabchbdhjdiaa
open Go.RowKit
/-- num, over a list that was just laid -/
theorem num_new (R : Nat) (a : Option Addr) (len cap p : Nat) (zs : List Int) (n : Nat) (hn : n = zs.length) (c : Array Value) (w : World) (h : Rd w R a len cap p) (hp : p ≤ 1000000) (hz : 0 < zs.length) (hz1 : zs.length ≤ 1000)
    (hc : ∀ j : Nat, j < zs.length → c[j]? = some (.int .i64 (zs.getD j 0))) :
    Calls Try.prog 85 #[.pointer (some ⟨R, 0, none⟩), .slice (some ⟨w.heap.size, 0, none⟩) n n] (w.alloc (.cells c 3))
      (Nums R a len cap p zs (w.alloc (.cells c 3))) := by
  subst hn
  exact num_any R a len cap p w.heap.size zs _ (h.alloc _) hp (by have := h.sz; omega) (by simp) hz hz1 (fun j hj => by rw [World.cell?_alloc_new]; exact hc j hj)
/-- a draw hands back a 64-bit integer, takes at most c bytes, and writes nowhere but into the reader and new blocks -/
def DrawI (R : Nat) (a : Option Addr) (len cap p c : Nat) (w : World) (e : Ending) (w' : World) : Prop :=
  ∃ x : Int, ∃ q : Nat, e = .returned (.int .i64 x) ∧ -9223372036854775808 ≤ x ∧ x ≤ 9223372036854775807 ∧ q ≤ p + c ∧ Rd w' R a len cap q ∧ w.grownBy w' (some R)
def primes10 : List Int := [5, 3, 7, 2, 5, 3, 7, 2, 11, 13]
def odd6 : List Int := [0, 1, 4, 17, -3, 9223372036854775807]
theorem mem_bd {zs : List Int} {x : Int} (h : x ∈ zs) (hz : zs.all (fun y => decide (-9223372036854775808 ≤ y) && decide (y ≤ 9223372036854775807)) = true) : -9223372036854775808 ≤ x ∧ x ≤ 9223372036854775807 := by
  rw [List.all_eq_true] at hz
  simpa using hz x h
theorem Rd.far {w w' : World} {R B : Nat} {a : Option Addr} {len cap p : Nat} (h : Rd w R a len cap p) (hs : w.heap.size ≤ w'.heap.size) (hb : ∀ k, k < B → w'.heap[k]? = w.heap[k]?) (hR : R < B) (ha : len = 0 ∨ ∀ g off, a = some ⟨g, off, none⟩ → g < B) : Rd w' R a len cap p := by
  have e := hb R hR
  refine ⟨by rw [World.cell?_of_block (a := ⟨R, 0, none⟩) e]; exact h.b0, by rw [World.cell?_of_block (a := ⟨R, 1, none⟩) e]; exact h.p1, by rw [World.frozen?_of_block (a := ⟨R, 1, none⟩) e]; exact h.f1, Nat.lt_of_lt_of_le h.sz hs, h.len_le, ?_⟩
  rcases ha with h0 | ha
  · exact .inl h0
  · rcases h.bytes with h0 | ⟨g, off, rfl, hR, hg, hc⟩
    · exact .inl h0
    · refine .inr ⟨g, off, rfl, hR, Nat.lt_of_lt_of_le hg hs, fun i hi => ?_⟩
      obtain ⟨z, z0, z1, hz⟩ := hc i hi
      exact ⟨z, z0, z1, by rw [World.cell?_of_block (a := ⟨g, off + i, none⟩) (hb g (ha g off rfl))]; exact hz⟩
theorem Rd.la {w : World} {R : Nat} {a : Option Addr} {len cap p : Nat} (h : Rd w R a len cap p) : len = 0 ∨ ∀ g off, a = some ⟨g, off, none⟩ → g < w.heap.size := by
  rcases h.bytes with h0 | ⟨g, off, rfl, hR, hg, hc⟩
  · exact .inl h0
  · refine .inr fun g' off' e => ?_
    injection e with e
    injection e with e1 e2
    omega
theorem grown_of {w w' : World} {R : Nat} (h : Below w.heap.size w w') : w.grownBy w' (some R) := ⟨h.os, h.tape, h.output, h.size, fun k hk _ => h.block k hk⟩
end Go.Proofs.Ytajabchbdhjdiaa
