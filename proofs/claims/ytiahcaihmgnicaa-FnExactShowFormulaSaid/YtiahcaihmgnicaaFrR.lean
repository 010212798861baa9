/-
  Contracts of the program's reader of formulas: place, read, formulaOf. Conditions: the reader lies at one block, its stack in a block of its own.
-/
import Derived.Test.YtiahcaihmgnicaaFrL
namespace Go.Proofs.Ytiahcaihmgnicaa
open Go.RowKit
/-- only the block R and what lies from B on is written -/
structure Only (R B : Nat) (w w' : World) : Prop where
  os : w'.os = w.os
  tape : w'.tape = w.tape
  output : w'.output = w.output
  size : w.heap.size ≤ w'.heap.size
  block : ∀ k, k < B → k ≠ R → w'.heap[k]? = w.heap[k]?
theorem Only.refl (R B : Nat) (w : World) : Only R B w w := ⟨rfl, rfl, rfl, Nat.le_refl _, fun _ _ _ => rfl⟩
theorem Only.trans {R B : Nat} {a b c : World} (h : Only R B a b) (k : Only R B b c) : Only R B a c :=
  ⟨k.os.trans h.os, k.tape.trans h.tape, k.output.trans h.output, Nat.le_trans h.size k.size, fun i hi hn => (k.block i hi hn).trans (h.block i hi hn)⟩
theorem Only.of_below {R B : Nat} {w w' : World} (h : Below B w w') : Only R B w w' := ⟨h.os, h.tape, h.output, h.size, fun k hk _ => h.block k hk⟩
theorem Only.set {R B : Nat} {a w : World} (h : Only R B a w) {p : Addr} (hp : p.block = R ∨ B ≤ p.block) (u : Value) : Only R B a (w.setCell p u) :=
  ⟨h.os, h.tape, h.output, by simpa using h.size, fun k hk hn => by rw [Below.heap_setCell _ _ _ _ (fun e => by rcases hp with hp | hp <;> omega)]; exact h.block k hk hn⟩
theorem Only.low {R B : Nat} {a w : World} (h : Only R B a w) (hr : R ≤ B) : Below R a w := ⟨h.os, h.tape, h.output, h.size, fun k hk => h.block k (by omega) (by omega)⟩
/-- the reader lies in block R: its field, its open pairs, what is whole -/
structure RdW (p : Int) (B R : Nat) (O : Stk) (f : Option Fm) (w : World) : Prop where
  c0 : w.cell? ⟨R, 0, none⟩ = some (.int .i64 p)
  c1 : ∃ v, w.cell? ⟨R, 1, none⟩ = some v ∧ StkR w B v O
  c2 : w.cell? ⟨R, 2, none⟩ = some (optV f)
  fz : ∀ i, w.frozen? ⟨R, i, none⟩ = false
  RB : R < B
  sz : B ≤ w.heap.size
theorem RdW.below {p : Int} {B R : Nat} {O : Stk} {f : Option Fm} {w w' : World} (h : RdW p B R O f w) (hb : Below w.heap.size w w') : RdW p B R O f w' := by
  have h1 := h.RB
  have h2 := h.sz
  obtain ⟨v, hv, hr⟩ := h.c1
  exact ⟨by rw [hb.cell (p := ⟨R, 0, none⟩) (show R < w.heap.size by omega)]; exact h.c0, ⟨v, by rw [hb.cell (p := ⟨R, 1, none⟩) (show R < w.heap.size by omega)]; exact hv, hr.below hb⟩,
    by rw [hb.cell (p := ⟨R, 2, none⟩) (show R < w.heap.size by omega)]; exact h.c2, fun i => by rw [hb.frozen (p := ⟨R, i, none⟩) (show R < w.heap.size by omega)]; exact h.fz i, h1, Nat.le_trans h2 hb.size⟩
theorem StkR.low {w : World} {B R i : Nat} {v : Value} {O : Stk} (h : StkR w B v O) (hR : R < B) (u : Value) : StkR (w.setCell ⟨R, i, none⟩ u) B v O :=
  World.ownsRow.kept (row := some R) h ⟨rfl, rfl, rfl, by simp, fun k hk hne => Below.heap_setCell _ _ _ _ (fun e => hne (by rw [e]))⟩ (.inr (fun e => by have := (World.ownsRow.lt h _ e).1; omega))
/-- the open pairs of the reader anew -/
theorem RdW.open1 {p : Int} {B R : Nat} {O O' : Stk} {f : Option Fm} {w w1 : World} (h : RdW p B R O f w) (h1 : Only R B w w1) (h0 : ∀ i, w1.cell? ⟨R, i, none⟩ = w.cell? ⟨R, i, none⟩) (hf : ∀ i, w1.frozen? ⟨R, i, none⟩ = w.frozen? ⟨R, i, none⟩) {v : Value} (hr : StkR w1 B v O') :
    RdW p B R O' f (w1.setCell ⟨R, 1, none⟩ v) := by
  have e1 := h.RB
  have e2 := h.sz
  obtain ⟨u, hu, _⟩ := h.c1
  refine ⟨?_, ⟨v, World.cell?_setCell_same _ _ _ (show w1.cell? ⟨R, 1, none⟩ = some u by rw [h0]; exact hu), hr.low e1 v⟩, ?_, fun i => by rw [World.frozen?_setCell, hf]; exact h.fz i, e1, by simpa using Nat.le_trans e2 h1.size⟩
  · rw [World.cell?_setCell_other _ _ _ _ (by simp), h0]; exact h.c0
  · rw [World.cell?_setCell_other _ _ _ _ (by simp), h0]; exact h.c2
theorem RdW.whole {p : Int} {B R : Nat} {w : World} (h : RdW p B R [] none w) (f : Fm) : RdW p B R [] (some f) (w.setCell ⟨R, 2, none⟩ (fmV f)) := by
  have e1 := h.RB
  obtain ⟨v, hv, hr⟩ := h.c1
  refine ⟨?_, ⟨v, ?_, hr.low e1 _⟩, World.cell?_setCell_same _ _ _ h.c2, fun i => by rw [World.frozen?_setCell]; exact h.fz i, e1, by simpa using h.sz⟩
  · rw [World.cell?_setCell_other _ _ _ _ (by simp)]; exact h.c0
  · rw [World.cell?_setCell_other _ _ _ _ (by simp)]; exact hv
theorem RdW.first {p : Int} {B R g n cap : Nat} {O : Stk} {k : Int} {w : World} (h : RdW p B R ((k, none) :: O) none w) (hv : w.cell? ⟨R, 1, none⟩ = some (.slice (some ⟨g, 0, none⟩) n cap)) (hr : StkR w B (.slice (some ⟨g, 0, none⟩) n cap) ((k, none) :: O)) (hn : n = O.length + 1) (hg : B ≤ g) (f : Fm) :
    RdW p B R ((k, some f) :: O) none (w.setCell ⟨g, O.length * 3 + 1, none⟩ (fmV f)) := by
  have e1 := h.RB
  have ne : ∀ i, (⟨g, O.length * 3 + 1, none⟩ : Addr) ≠ ⟨R, i, none⟩ := fun i e => by have := congrArg Addr.block e; simp at this; omega
  refine ⟨?_, ⟨_, ?_, hr.first hn f⟩, ?_, fun i => by rw [World.frozen?_setCell]; exact h.fz i, e1, by simpa using h.sz⟩
  · rw [World.cell?_setCell_other _ _ _ _ (ne 0)]; exact h.c0
  · rw [World.cell?_setCell_other _ _ _ _ (ne 1)]; exact hv
  · rw [World.cell?_setCell_other _ _ _ _ (ne 2)]; exact h.c2
theorem RdW.pop {p : Int} {B R g n cap : Nat} {O : Stk} {k : Int} {x : Option Fm} {w : World} (h : RdW p B R ((k, x) :: O) none w) (hr : StkR w B (.slice (some ⟨g, 0, none⟩) n cap) ((k, x) :: O)) (hn : n = O.length + 1) (hg : B ≤ g) (f : Fm) :
    RdW p B R O none ((w.setCell ⟨g, O.length * 3 + 2, none⟩ (fmV f)).setCell ⟨R, 1, none⟩ (.slice (some ⟨g, 0, none⟩) O.length cap)) := by
  have e1 := h.RB
  have ne : ∀ i, (⟨g, O.length * 3 + 2, none⟩ : Addr) ≠ ⟨R, i, none⟩ := fun i e => by have := congrArg Addr.block e; simp at this; omega
  exact h.open1 ((Only.refl R B w).set (.inr hg) _) (fun i => World.cell?_setCell_other _ _ _ _ (ne i)) (fun i => World.frozen?_setCell _ _ _ _) (hr.pop hn f)
/-- how many pairs are open -/
def opnN (w : World) (R : Nat) : Nat := match w.cell? ⟨R, 1, none⟩ with
  | some (.slice _ n _) => n
  | _ => 0
theorem opnN_of {w : World} {R n cap : Nat} {a : Option Addr} (h : w.cell? ⟨R, 1, none⟩ = some (.slice a n cap)) : opnN w R = n := by unfold opnN; rw [h]
theorem RdW.shape {p : Int} {B R : Nat} {O : Stk} {f : Option Fm} {w : World} (h : RdW p B R O f w) : ∃ a cap, w.cell? ⟨R, 1, none⟩ = some (.slice a O.length cap) ∧ StkR w B (.slice a O.length cap) O ∧ O.length ≤ maxLen ∧ (O = [] ∨ ∃ g, a = some ⟨g, 0, none⟩ ∧ B ≤ g ∧ g < w.heap.size ∧ O.length ≤ cap) := by
  obtain ⟨v, hv, hr⟩ := h.c1
  rcases hr.shape with ⟨rfl, rfl⟩ | ⟨g, cap, rfl, hb, hg, hn, hm⟩
  · exact ⟨none, 0, hv, hr, by simp, .inl rfl⟩
  · exact ⟨_, cap, hv, hr, Nat.le_trans hn hm, .inr ⟨g, rfl, hb, hg, hn⟩⟩
theorem fmV_is (f : Fm) : ∃ t v, fmV f = .iface t v := by cases f <;> exact ⟨_, _, rfl⟩
set_option maxRecDepth 100000 in
set_option maxHeartbeats 4000000 in
theorem iPlace (p : Int) (B R : Nat) (f : Fm) (O : Stk) (w : World) (h : RdW p B R O none w) :
    Calls Try.prog 151 #[.pointer (some ⟨R, 0, none⟩), fmV f] w fun e w' => e = .returned (.tuple #[]) ∧ RdW p B R (plcF f O).1 (plcF f O).2 w' ∧ Only R B w w' := by
  have H0 := Lib.hid h
  obtain ⟨F, hF⟩ : ∃ F, F = fmV f := ⟨_, rfl⟩
  have HF := Lib.hid hF
  obtain ⟨Z, hZ⟩ : ∃ Z, Z = plcF f O := ⟨_, rfl⟩
  have HZ := Lib.hid hZ
  rw [← hZ, ← hF]
  have c159 : Try.prog.cellsOf 159 = 3 := by kernel_rfl
  clear h hF hZ
  go_enter Try.func151, Try.ntmps151
  go_wp2_with fail
  go_loopw [1] (fun u wr => ∃ (f' : Fm) (O' : Stk), u = fmV f' ∧ RdW p B R O' none wr ∧ plcF f' O' = Z ∧ Only R B w wr) (fun _ wr => opnN wr R)
  case atStart => exact ⟨f, O, HF.out, H0.out, HZ.out.symm, Only.refl _ _ _⟩
  case round =>
    clear HF HZ H0
    obtain ⟨f', O', rfl, hR, hZ', hOn⟩ := hrel
    obtain ⟨a, cap, hc1, hst, hml, hsh⟩ := hR.shape
    have hop := opnN_of hc1
    have hcz : wr.cell? ⟨R, 2, none⟩ = some .nilIface := hR.c2
    obtain ⟨ft, fv, hfe⟩ := fmV_is f'
    rw [hfe]
    have HE := Lib.hid hfe
    clear hfe
    have hfz := hR.fz 2
    have HR := Lib.hid hR
    have HZ := Lib.hid hZ'
    have HO := Lib.hid hOn
    have HP := Lib.hid hop
    unfold maxLen at hml
    cases O' with
    | nil =>
      simp only [List.length_nil] at hc1
      clear hR hZ' hOn hst hop hsh hml c159
      go_wp2_with fail
      refine bodyPost_end (v := .tuple #[]) (by simp [results, Try.results151, go_sem]) rfl ⟨rfl, ?_, HO.out.set (.inl rfl) _⟩
      rw [← HZ.out, ← HE.out]
      exact HR.out.whole f'
    | cons x O' =>
      obtain ⟨k, y⟩ := x
      obtain ⟨g, rfl, hg, hgw, hn⟩ := hsh.resolve_left (by simp)
      simp only [List.length_cons] at hc1 hst hop hml hn
      obtain ⟨t0, t1, t2⟩ := hst.top rfl
      have tf := fun j => hst.frozen rfl j
      have HT := Lib.hid hst
      have hwr : IntKind.i64.wrap (O'.length : Int) = (O'.length : Int) := IntWalk.i64_in _ (by omega)
      have hix1 : (O'.length : Int) < (O'.length : Int) + 1 := by omega
      have hix2 : (O'.length : Int) < ((O'.length + 1 : Nat) : Int) := by omega
      have hix3 : O'.length < O'.length + 1 := by omega
      have hix0 : (0 : Int) ≤ (O'.length : Int) := by omega
      have hgt : (0 : Int) < (O'.length : Int) + 1 := by omega
      clear hR hZ' hOn hst hop hsh hcz
      cases y with
      | none =>
        have t1' : wr.cell? ⟨g, O'.length * 3 + 1, none⟩ = some .nilIface := t1
        clear t1
        have tf1 := tf (O'.length * 3 + 1)
        clear tf
        go_wp2_with fail
        refine bodyPost_ret (v := .tuple #[]) (by simp [results, Try.results151, go_sem]) rfl ⟨rfl, ?_, HO.out.set (.inr hg) _⟩
        rw [← HZ.out, ← HE.out]
        exact HR.out.first hc1 HT.out rfl hg f'
      | some x =>
        obtain ⟨xt, xv, hxe⟩ := fmV_is x
        have t1' : wr.cell? ⟨g, O'.length * 3 + 1, none⟩ = some (.iface xt xv) := by rw [← hxe]; exact t1
        have HXE := Lib.hid hxe
        have tf2 := tf (O'.length * 3 + 2)
        have fz1 := HR.out.fz 1
        have hgR : (⟨g, O'.length * 3 + 2, none⟩ : Addr) ≠ ⟨R, 1, none⟩ := fun e => by have h1 := congrArg Addr.block e; have h2 := HR.out.RB; simp only at h1; omega
        have HQ := Lib.hid (show RdW p B R O' none ((wr.setCell ⟨g, O'.length * 3 + 2, none⟩ (.iface ft fv)).setCell ⟨R, 1, none⟩ (.slice (some ⟨g, 0, none⟩) O'.length cap)) by
          rw [← HE.out]
          exact HR.out.pop HT.out rfl hg f')
        have HQ2 := Lib.hid (show Only R B w ((wr.setCell ⟨g, O'.length * 3 + 2, none⟩ (.iface ft fv)).setCell ⟨R, 1, none⟩ (.slice (some ⟨g, 0, none⟩) O'.length cap)) from (HO.out.set (.inr hg) _).set (.inl rfl) _)
        have hle : O'.length ≤ cap := by omega
        have hc2 : ((wr.setCell ⟨g, O'.length * 3 + 2, none⟩ (.iface ft fv))).cell? ⟨R, 1, none⟩ = some (.slice (some ⟨g, 0, none⟩) (O'.length + 1) cap) := by rw [World.cell?_setCell_other _ _ _ _ hgR]; exact hc1
        clear t1 tf hxe
        go_wp2_with fail
        refine ⟨⟨.pair k x f', O', ?_, HQ.out, HZ.out, HQ2.out⟩, ?_⟩
        · show _ = Value.iface _ _
          rw [← HXE.out, ← HE.out]
        · rw [HP.out, opnN_of (World.cell?_setCell_same _ _ _ hc2)]
          simp
end Go.Proofs.Ytiahcaihmgnicaa
