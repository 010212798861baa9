/-
  Boxes with an element that may be written. Conditions: none.
  The program's product of lines. Conditions: what the slices hold is known.
  The program's sum of lines. Conditions: what the slices hold is known.
-/
import Derived.Test.YtfmpcniehgipfaaBf12
import Derived.Test.YtfmpcniehgipfaaBf9
import Derived.Test.YtfmpcniehgipfaaBf4
namespace Go.Proofs.Ytfmpcniehgipfaa
set_option linter.unusedVariables false
open Go.RowKit
/-- one block alone -/
def T1v (b : Nat) (W : World) (k : Nat) : Prop := k < W.heap.size ∧ k = b
theorem T1v.of {b : Nat} {A C : World} {k : Nat} (h : T1v b C k) (hb : b < A.heap.size) : T1v b A k := ⟨by rw [h.2]; exact hb, h.2⟩
/-- a box with an element that may be written -/
structure BoxE (b : Nat) (p x : Int) (W : World) : Prop where
  c0 : W.cell? ⟨b, 0, none⟩ = some (.int .i64 p)
  c1 : W.cell? ⟨b, 1, none⟩ = some (.int .i64 x)
  f0 : W.frozen? ⟨b, 0, none⟩ = false
  f1 : W.frozen? ⟨b, 1, none⟩ = false
theorem BoxE.lt {b : Nat} {p x : Int} {W : World} (h : BoxE b p x W) : b < W.heap.size := World.block_lt_of_cell? _ ⟨b, 0, none⟩ h.c0
theorem BoxE.heap {b : Nat} {p x : Int} {W W' : World} (h : BoxE b p x W) (e : W'.heap[b]? = W.heap[b]?) : BoxE b p x W' :=
  ⟨(cell_of_heap (p := ⟨b, 0, none⟩) e).trans h.c0, (cell_of_heap (p := ⟨b, 1, none⟩) e).trans h.c1, (frozen_of_heap (p := ⟨b, 0, none⟩) e).trans h.f0, (frozen_of_heap (p := ⟨b, 1, none⟩) e).trans h.f1⟩
theorem BoxE.below {b : Nat} {p x : Int} {W W' : World} (h : BoxE b p x W) (hb : Below W.heap.size W W') : BoxE b p x W' := h.heap (hb.block b h.lt)
theorem BoxE.grow {b B : Nat} {p x : Int} {W W' : World} (h : BoxE b p x W) (hg : GrowB B W W') : BoxE b p x W' :=
  ⟨hg.cell h.c0, hg.cell h.c1, (hg.frozen h.c0).trans h.f0, (hg.frozen h.c1).trans h.f1⟩
theorem BoxE.set {b : Nat} {p x : Int} {W : World} (h : BoxE b p x W) (y : Int) : BoxE b p y ((W.setCell ⟨b, 0, none⟩ (.int .i64 p)).setCell ⟨b, 1, none⟩ (.int .i64 y)) := by
  have e1 : (W.setCell ⟨b, 0, none⟩ (.int .i64 p)).cell? ⟨b, 1, none⟩ = some (.int .i64 x) := (World.cell?_setCell_other _ _ _ _ (by simp)).trans h.c1
  refine ⟨?_, World.cell?_setCell_same _ _ _ e1, ?_, ?_⟩
  · rw [World.cell?_setCell_other _ _ _ _ (by simp)]
    exact World.cell?_setCell_same _ _ _ h.c0
  · rw [World.frozen?_setCell, World.frozen?_setCell]; exact h.f0
  · rw [World.frozen?_setCell, World.frozen?_setCell]; exact h.f1
theorem BoxE.new (W : World) (p x : Int) (T : TypeId) : BoxE W.heap.size p x (W.alloc (Obj.cells #[.int .i64 p, .int .i64 x] T)) := by
  constructor <;> simp [go_sem]
theorem kpV_set {b : Nat} {W : World} {p y : Int} (hb : b < W.heap.size) : KpV (T1v b) W ((W.setCell ⟨b, 0, none⟩ (.int .i64 p)).setCell ⟨b, 1, none⟩ (.int .i64 y)) := by
  refine ⟨rfl, rfl, rfl, by simp, fun k hk hn => ?_, fun k q => .inl (q.of hb)⟩
  have hkb : k ≠ b := fun e => hn ⟨hk, e⟩
  rw [Below.heap_setCell _ _ _ _ hkb, Below.heap_setCell _ _ _ _ hkb]
theorem KpV.keep {b : Nat} {W W' : World} (h : KpV (T1v b) W W') {k : Nat} (hk : k < W.heap.size) (hn : k ≠ b) : W'.heap[k]? = W.heap[k]? := h.same k hk (fun q => hn q.2)
end Go.Proofs.Ytfmpcniehgipfaa
namespace Go.Proofs.Ytfmpcniehgipfaa
set_option linter.unusedVariables false
open Go.RowKit
/-- how long the product is behind some rounds -/
def lenR (ng i k : Nat) : Nat := if ng = 0 then 0 else if i = 0 then k else if k = ng then i + ng else i + ng - 1
def lenP (ng i : Nat) : Nat := if i = 0 ∨ ng = 0 then 0 else i + ng - 1
theorem lenR_zero (ng i : Nat) : lenR ng i 0 = lenP ng i := by
  unfold lenR lenP
  by_cases h : ng = 0
  · rw [if_pos h, if_pos (.inr h)]
  · rw [if_neg h]
    by_cases h2 : i = 0
    · rw [if_pos h2, if_pos (.inl h2)]
    · rw [if_neg h2, if_neg (by omega), if_neg (by omega)]
theorem lenR_all (ng i : Nat) : lenR ng i ng = lenP ng (i + 1) := by
  unfold lenR lenP
  by_cases h : ng = 0
  · rw [if_pos h, if_pos (.inr h)]
  · rw [if_neg h]
    by_cases h2 : i = 0
    · rw [if_pos h2, if_neg (by omega)]; omega
    · rw [if_neg h2, if_pos rfl, if_neg (by omega)]; omega
theorem lenR_bd {ng i k : Nat} (hk : k ≤ ng) : lenR ng i k ≤ i + ng := by
  unfold lenR; grind
theorem lenR_end {ng i k : Nat} (hk : k < ng) (h : i + k = lenR ng i k) : lenR ng i (k + 1) = lenR ng i k + 1 ∧ (i = 0 ∨ i + ng ≤ i + k + 1) := by
  unfold lenR at *; grind
theorem lenR_mid {ng i k : Nat} (hk : k < ng) (h : i + k ≠ lenR ng i k) : lenR ng i (k + 1) = lenR ng i k ∧ i + k < lenR ng i k := by
  unfold lenR at *; grind
/-- the element that comes to the end -/
theorem row_snoc {p : Int} {f g : List Int} {i k n : Nat} (hn : i + k = n) (hz : muU p f g i n = 0) : lsU (n + 1) (rowF p f g (muU p f g i) i (k + 1)) = lsU n (rowF p f g (muU p f g i) i k) ++ [cf f i * cf g k % p] := by
  rw [lsU_snoc, rowF_step, if_pos hn.symm, hn, hz, Int.zero_add]
  rw [lsU_ext (d := rowF p f g (muU p f g i) i k) (fun j hj => by rw [rowF_step, if_neg (by omega)])]
theorem row_set {p : Int} {f g : List Int} {i k n : Nat} (hn : i + k < n) {y : Int} (hy : y = (rowF p f g (muU p f g i) i k (i + k) + cf f i * cf g k) % p) : (lsU n (rowF p f g (muU p f g i) i k)).set (i + k) y = lsU n (rowF p f g (muU p f g i) i (k + 1)) := by
  refine lsU_set hn (fun j hj => ?_)
  rw [rowF_step, hy, rowF_at]
/-- an append leaves alone what is not the row's -/
theorem grown_box {W w1 : World} {b : Nat} {p x : Int} {v : Value} (hb : BoxE b p x W) (hg : W.grownBy w1 v.ownBlock) (hn : v.ownBlock ≠ some b) : BoxE b p x w1 := hb.heap (hg.block b hb.lt (fun e => hn e.symm))
set_option maxRecDepth 100000 in
set_option maxHeartbeats 16000000 in
theorem iTimesL (p : Int) (v1 v2 : Value) (L1 L2 : List Int) (w : World) (hp : isP p = true) (h1 : Elr w v1 p L1) (h2 : Elr w v2 p L2) (hE1 : AllE p L1) (hE2 : AllE p L2) (hl1 : L1.length ≤ 400) (hl2 : L2.length ≤ 400) :
    Calls Try.prog 72 #[v1, v2] w fun e w' => ∃ u, e = .returned u ∧ RowE w' w.heap.size u p (mlU p L1 L2) ∧ Below w.heap.size w w' := by
  obtain ⟨q1, q2⟩ := isP_bd hp
  obtain ⟨i0, hi, hz0, hz1, hz2⟩ := info_parts infoE
  have HP := Lib.hid hp
  have HE1 := Lib.hid hE1
  have HE2 := Lib.hid hE2
  have HG1 := Lib.hid h1
  have HG2 := Lib.hid h2
  obtain ⟨a1, cap1, rfl⟩ := h1.form
  obtain ⟨a2, cap2, rfl⟩ := h2.form
  clear hp hE1 hE2 h1 h2
  go_enter Try.func72, Try.ntmps72
  go_wp2_with fail
  go_loopw [5, 12] (fun u ii wr => ∃ i : Nat, i ≤ L1.length ∧ ii = .int .i64 i ∧ RowE wr w.heap.size u p (lsU (lenP L2.length i) (muU p L1 L2 i)) ∧ Below w.heap.size w wr) (fun _ ii _ => L1.length - (intOf ii).toNat)
  case atStart => exact ⟨0, by omega, rfl, by rw [show lenP L2.length 0 = 0 by unfold lenP; rw [if_pos (.inl rfl)]]; exact RowE.nil _ _ _, Below.refl _ _⟩
  case round =>
    obtain ⟨i, hil, rfl, hf, hb⟩ := hrel
    have HF := Lib.hid hf
    have HB := Lib.hid hb
    clear hf hb
    by_cases hi1 : i < L1.length
    · obtain ⟨g, off, capg, he, _, hg, hc⟩ := HG1.out.some (by omega)
      simp only [Value.slice.injEq] at he
      obtain ⟨rfl, _, rfl⟩ := he
      obtain ⟨c0, c1⟩ := hc i hi1
      have hxb := HE1.out i
      obtain ⟨x, hx⟩ : ∃ x, x = cf L1 i := ⟨_, rfl⟩
      rw [← hx] at c1 hxb
      have HX := Lib.hid hx
      have HXB := Lib.hid hxb
      have d0 : wr.cell? ⟨g, off + i * 2, none⟩ = some (.int .i64 p) := (HB.out.cell (p := ⟨g, off + i * 2, none⟩) hg).trans c0
      have d1 : wr.cell? ⟨g, off + i * 2 + 1, none⟩ = some (.int .i64 x) := (HB.out.cell (p := ⟨g, off + i * 2 + 1, none⟩) hg).trans c1
      have hiI : (i : Int) < (L1.length : Int) := by omega
      have hi0 : (0 : Int) ≤ (i : Int) := by omega
      obtain ⟨ab, hab⟩ : ∃ ab, ab = wr.heap.size := ⟨_, rfl⟩
      have HAB := Lib.hid hab
      obtain ⟨Wa, hWa⟩ : ∃ Wa, Wa = wr.alloc (Obj.cells #[.int .i64 p, .int .i64 x] 61) := ⟨_, rfl⟩
      have HBX := Lib.hid (show BoxE ab p x Wa from by rw [hWa, hab]; exact BoxE.new wr p x _)
      have HBWa := Lib.hid (show Below wr.heap.size wr Wa from by rw [hWa]; exact Below.alloc (Below.refl _ _) (Nat.le_refl _) _)
      have HNO := Lib.hid (show u5.ownBlock ≠ some ab from fun e => by have := (World.ownsRow.lt HF.out ab e).2; omega)
      clear hc c0 c1 hx hxb
      go_wp2_with fail
      rw [← hWa, ← hab]
      clear hWa hab d0 d1
      go_loopw [5, 19] (fun u kk ws => ∃ k : Nat, k ≤ L2.length ∧ kk = .int .i64 k ∧ RowE ws w.heap.size u p (lsU (lenR L2.length i k) (rowF p L1 L2 (muU p L1 L2 i) i k)) ∧ Below w.heap.size w ws ∧ BoxE ab p x ws ∧ u.ownBlock ≠ some ab) (fun _ kk _ => L2.length - (intOf kk).toNat)
      case atStart =>
        refine ⟨0, by omega, rfl, ?_, HB.out.trans (HBWa.out.mono HB.out.size), HBX.out, HNO.out⟩
        rw [lenR_zero, lsU_ext (d := muU p L1 L2 i) (fun j _ => rowF_zero _ _ _ _ _ _)]
        exact HF.out.below HBWa.out
      case round =>
        clear HF HB HBX HBWa HNO
        obtain ⟨k, hkl, rfl, hf, hb, hbx, hno⟩ := hrel
        have HF := Lib.hid hf
        have HB := Lib.hid hb
        have HBX := Lib.hid hbx
        have HNO := Lib.hid hno
        clear hf hb hbx hno
        by_cases hk2 : k < L2.length
        · obtain ⟨g2, off2, capg2, he, _, hg2, hc2⟩ := HG2.out.some (by omega)
          simp only [Value.slice.injEq] at he
          obtain ⟨rfl, _, rfl⟩ := he
          obtain ⟨c0, c1⟩ := hc2 k hk2
          have hyb := HE2.out k
          obtain ⟨y, hy⟩ : ∃ y, y = cf L2 k := ⟨_, rfl⟩
          rw [← hy] at c1 hyb
          have HXB' := HXB.out
          have d0 : wr.cell? ⟨g2, off2 + k * 2, none⟩ = some (.int .i64 p) := (HB.out.cell (p := ⟨g2, off2 + k * 2, none⟩) hg2).trans c0
          have d1 : wr.cell? ⟨g2, off2 + k * 2 + 1, none⟩ = some (.int .i64 y) := (HB.out.cell (p := ⟨g2, off2 + k * 2 + 1, none⟩) hg2).trans c1
          have hkI : (k : Int) < (L2.length : Int) := by omega
          have hk0 : (0 : Int) ≤ (k : Int) := by omega
          have hwik : IntKind.i64.wrap ((i : Int) + (k : Int)) = (i : Int) + (k : Int) := IntWalk.i64_in _ (by omega)
          obtain ⟨t, ht⟩ : ∃ t, t = x * y % p := ⟨_, rfl⟩
          have htb := emod_bdU (show 0 < p by omega) (x * y)
          rw [← ht] at htb
          have HT := Lib.hid (fun w => iTimes p x y HP.out HXB'.1 HXB'.2 hyb.1 hyb.2 w)
          rw [← ht] at HT
          obtain ⟨n, hn⟩ : ∃ n, n = lenR L2.length i k := ⟨_, rfl⟩
          have hnx := lenR_end (i := i) hk2
          have hnm := lenR_mid (i := i) hk2
          have hnb := lenR_bd (ng := L2.length) (i := i) (k := k) (by omega)
          rw [← hn] at HF hnx hnm hnb
          have HLN := Lib.hid (lsU_len n (rowF p L1 L2 (muU p L1 L2 i) i k))
          obtain ⟨ua, uc, hu⟩ : ∃ ua uc, u5 = .slice ua n uc := by
            rcases HF.out.shape with ⟨e1, e2⟩ | ⟨G, C, e1, _⟩
            · have : n = 0 := by have := HLN.out; rw [e2] at this; simpa using this.symm
              exact ⟨none, 0, by rw [e1, this]⟩
            · exact ⟨_, C, by rw [e1, HLN.out]⟩
          subst hu
          by_cases hend : i + k = n
          · obtain ⟨hn1, hnx⟩ := hnx hend
            have hz : muU p L1 L2 i n = 0 := by
              rcases hnx with h | h
              · rw [h]; rfl
              · exact muU_far (by omega)
            have HN := Lib.hid (show lsU (lenR L2.length i (k + 1)) (rowF p L1 L2 (muU p L1 L2 i) i (k + 1)) = lsU n (rowF p L1 L2 (muU p L1 L2 i) i k) ++ [t] from by rw [hn1, row_snoc hend hz, ht, ← HX.out, hy])
            obtain ⟨M, hM⟩ : ∃ M, M = lsU n (rowF p L1 L2 (muU p L1 L2 i) i k) := ⟨_, rfl⟩
            rw [← hM] at HF HN HLN
            have heq : ((i : Int) + (k : Int) == (n : Int)) = true := by simp; omega
            have HNB := Lib.hid hnb
            have HML := Lib.hid (show M.length ≤ 800 from by rw [HLN.out]; omega)
            have HABX := Lib.hid HBX.out.lt
            obtain ⟨x0, x1, _, _⟩ := HBX.out
            have hablt := HABX.out
            clear hc2 c0 c1 hy ht hn hnx hnm hz hn1 hM hend hyb htb hnb
            go_wp2_with fail
            refine (HT.out _).mono ?_
            rintro e w3 ⟨rfl, hb3⟩
            have HB3 := Lib.hid (show Below wr.heap.size wr w3 from (Below.alloc (Below.refl _ _) (Nat.le_refl _) _).trans (hb3.mono (by simp)))
            clear hb3 x0 x1 d0 d1 hablt
            have HF4 := Lib.hid (show RowE (w3.alloc (Obj.cells #[.int .i64 p, .int .i64 t] 61)) w.heap.size (.slice ua n uc) p M from HF.out.below (HB3.out.alloc HB3.out.size _))
            have HB4 := Lib.hid (show Below w.heap.size w (w3.alloc (Obj.cells #[.int .i64 p, .int .i64 t] 61)) from HB.out.trans ((HB3.out.alloc HB3.out.size _).mono HB.out.size))
            have HBX4 := Lib.hid (HBX.out.below (HB3.out.alloc HB3.out.size (Obj.cells #[.int .i64 p, .int .i64 t] 61)))
            have hnew : ab < (w3.alloc (Obj.cells #[.int .i64 p, .int .i64 t] 61)).heap.size := HBX4.out.lt
            have hab3 : ab < w3.heap.size := Nat.lt_of_lt_of_le HBX.out.lt HB3.out.size
            have HA3 := Lib.hid hab3
            clear hnew hab3
            go_wp2_with (at_builtin; refine wpList_append_lies _ rfl _ _ 63 rfl w.heap.size 61 i0 (.agg #[.int .i64 0, .int .i64 0]) 2 16 Try.underlying63 hi hz0 hz1 hz2 rfl (by decide) _ _ _ rfl HF4.out _ 1 1 [.int .i64 p, .int .i64 t] rfl rfl (new_el _ _ _ _) (el_ok _ _) (by omega) (by unfold maxLen; have := HML.out; omega) (by have := HML.out; omega) (by have := HB4.out.size; exact this) _ rfl ?_)
            intro g5 c5 w5 hown5 hgrow5 hat5 _
            have hr5 : RowE w5 w.heap.size (.slice (some ⟨g5, 0, none⟩) (M.length + 1) c5) p (M ++ [t]) := rowE_snoc hown5
            have hb5 : Below w.heap.size w w5 := HB4.out.grown hgrow5 HB4.out.size (fun j hj => (World.ownsRow.lt HF4.out j hj).1)
            have hx5 : BoxE ab p x w5 := grown_box HBX4.out hgrow5 HNO.out
            have hn5 : (Value.slice (some ⟨g5, 0, none⟩) (M.length + 1) c5).ownBlock ≠ some ab := by
              intro e
              have hg5 : g5 = ab := by simpa [Value.ownBlock] using e
              rcases hat5 with h | h
              · exact HNO.out (hg5 ▸ h)
              · have := HA3.out
                have h2 : g5 = w3.heap.size + 1 := by rw [h]
                omega
            rw [← HN.out] at hr5
            have H5 := Lib.hid (And.intro hr5 (And.intro hb5 (And.intro hx5 hn5)))
            clear hr5 hb5 hx5 hn5 hown5 hgrow5 hat5
            go_wp2_with fail
            go_roundw
            case rel => exact ⟨k + 1, by omega, by go_num, H5.out⟩
            case measure => simp [intOf]; omega
          · obtain ⟨hn1, hlt⟩ := hnm hend
            have hcz : cf (lsU n (rowF p L1 L2 (muU p L1 L2 i) i k)) (i + k) = rowF p L1 L2 (muU p L1 L2 i) i k (i + k) := lsU_cf hlt
            have hzb := rowF_bd (show 0 < p by omega) L1 L2 i k (i + k)
            obtain ⟨z, hz⟩ : ∃ z, z = rowF p L1 L2 (muU p L1 L2 i) i k (i + k) := ⟨_, rfl⟩
            rw [← hz] at hcz hzb
            obtain ⟨s, hs⟩ : ∃ s, s = (z + t) % p := ⟨_, rfl⟩
            have HPL := Lib.hid (fun w => iPlus p z t HP.out hzb.1 hzb.2 htb.1 htb.2 w)
            rw [← hs] at HPL
            have HN := Lib.hid (show (lsU n (rowF p L1 L2 (muU p L1 L2 i) i k)).set (i + k) s = lsU (lenR L2.length i (k + 1)) (rowF p L1 L2 (muU p L1 L2 i) i (k + 1)) from by
              rw [hn1]
              refine row_set hlt ?_
              rw [hs, ht, ← hz, ← HX.out, ← hy]
              exact ((Cg.refl p z).add (Cg.mod p (x * y))).emod)
            have HN1 := Lib.hid hn1
            obtain ⟨M, hM⟩ : ∃ M, M = lsU n (rowF p L1 L2 (muU p L1 L2 i) i k) := ⟨_, rfl⟩
            rw [← hM] at HF HN HLN hcz
            obtain ⟨G, C, hue, hGB, hGs, _, _⟩ := HF.out.at_ (by have := HLN.out; omega)
            rw [HLN.out] at hue
            simp only [Value.slice.injEq] at hue
            obtain ⟨rfl, _, rfl⟩ := hue
            have hGne : G ≠ ab := fun e => HNO.out (by rw [e]; rfl)
            have HGN := Lib.hid hGne
            have HGB := Lib.hid hGB
            have HCZ := Lib.hid hcz
            have heq : ((i : Int) + (k : Int) == (n : Int)) = false := by simp; omega
            have hikn : (i : Int) + (k : Int) < (n : Int) := by omega
            have hik0 : (0 : Int) ≤ (i : Int) + (k : Int) := by omega
            have hikN : ((i : Int) + (k : Int)).toNat = i + k := by omega
            have HIK := Lib.hid hlt
            have HROW := Lib.hid (fun w' (hb : Below wr.heap.size wr w') => show RowE w' w.heap.size (.slice (some ⟨G, 0, none⟩) M.length uc) p M from by rw [HLN.out]; exact HF.out.below hb)
            obtain ⟨W2, hW2⟩ : ∃ W2, W2 = wr.alloc (Obj.cells #[.int .i64 p, .int .i64 y] 61) := ⟨_, rfl⟩
            have HBY := Lib.hid (show BoxE wr.heap.size p y W2 from by rw [hW2]; exact BoxE.new wr p y _)
            have HBW2 := Lib.hid (show Below wr.heap.size wr W2 from by rw [hW2]; exact Below.alloc (Below.refl _ _) (Nat.le_refl _) _)
            have HS := Lib.hid (fun w' (hb : Below W2.heap.size W2 w') => show w'.cell? ⟨G, (i + k) * 2, none⟩ = some (.int .i64 p) ∧ w'.cell? ⟨G, (i + k) * 2 + 1, none⟩ = some (.int .i64 z) ∧ w'.cell? ⟨ab, 0, none⟩ = some (.int .i64 p) ∧ w'.cell? ⟨ab, 1, none⟩ = some (.int .i64 x) ∧ w'.cell? ⟨wr.heap.size, 0, none⟩ = some (.int .i64 p) ∧ w'.cell? ⟨wr.heap.size, 1, none⟩ = some (.int .i64 y) from by
              have hbb := HBW2.out.trans (hb.mono HBW2.out.size)
              have hr := HROW.out w' hbb
              have e := hr.cells (j := i + k) (by have := HLN.out; have := HIK.out; omega)
              rw [HCZ.out] at e
              have hx := HBX.out.below hbb
              have hy := HBY.out.below hb
              exact ⟨e.1, e.2, hx.c0, hx.c1, hy.c0, hy.c1⟩)
            clear hc2 c0 c1 hy ht hn hnx hnm hz hs hn1 hM hend hyb htb hzb hnb hcz hlt hGne hGB
            go_wp2_with fail
            rw [← hW2]
            clear hW2 d0 d1
            refine wp_region_seq [(0, true), (1, true), (2, true), (3, true), (4, true), (5, true), (6, true), (7, true), (8, true), (9, true), (10, true), (11, true), (12, true), (13, true), (14, false), (15, false), (16, true)] (fun w' => w'.cell? ⟨G, (i + k) * 2, none⟩ = some (.int .i64 p) ∧ w'.cell? ⟨G, (i + k) * 2 + 1, none⟩ = some (.int .i64 z) ∧ w'.cell? ⟨ab, 0, none⟩ = some (.int .i64 p) ∧ w'.cell? ⟨ab, 1, none⟩ = some (.int .i64 x) ∧ w'.cell? ⟨wr.heap.size, 0, none⟩ = some (.int .i64 p) ∧ w'.cell? ⟨wr.heap.size, 1, none⟩ = some (.int .i64 y)) (by kernel_rfl) (by kernel_rfl) rfl (by intro c a d v w h; cases d <;> exact h) (HS.out _ (Below.drew (Below.refl _ _))) ?_
            iterate 14 (refine wpSeq_take (v := ?_) (List.getElem?_toArray.trans rfl) ?_ ?_; rotate_left; (intro w' hSw; (try dsimp only at hSw); go_simp; (try with_reducible rfl)); (try simp only [Act.put, List.setIfInBounds_toArray, List.set_cons_zero, List.set_cons_succ]))
            refine wpSeq_do (List.getElem?_toArray.trans rfl) (fun K hK => ?_)
            go_simp
            refine (HT.out _).mono ?_
            rintro e w3 ⟨rfl, hb3⟩
            have HB3 := Lib.hid (show Below W2.heap.size W2 w3 from (Below.drew (Below.refl _ W2)).trans (hb3.mono (by simp)))
            refine hK _ _ (HS.out _ HB3.out) ?_
            clear hK K hb3
            refine wpSeq_do (List.getElem?_toArray.trans rfl) (fun K hK => ?_)
            go_simp
            refine (HPL.out _).mono ?_
            rintro e w4 ⟨rfl, hb4⟩
            have HB4 := Lib.hid (show Below W2.heap.size W2 w4 from HB3.out.trans (hb4.mono HB3.out.size))
            refine hK _ _ (HS.out _ HB4.out) ?_
            clear hK K hb4
            (refine wpSeq_take (v := ?_) (List.getElem?_toArray.trans rfl) ?_ ?_; rotate_left; (intro w' hSw; (try dsimp only at hSw); go_simp; (try with_reducible rfl)); (try simp only [Act.put, List.setIfInBounds_toArray, List.set_cons_zero, List.set_cons_succ]))
            refine wpSeq_nil ?_
            simp only [Exit.then]
            have HBr := Lib.hid (HBW2.out.trans (HB4.out.mono HBW2.out.size))
            have HF2 := Lib.hid (HROW.out w4 HBr.out)
            have e0 := (HF2.out.cells (j := i + k) (by have := HLN.out; have := HIK.out; omega)).1
            have e1 := (HF2.out.cells (j := i + k) (by have := HLN.out; have := HIK.out; omega)).2
            have f0 := HF2.out.froz rfl ((i + k) * 2)
            have f1 := HF2.out.froz rfl ((i + k) * 2 + 1)
            have H3 := Lib.hid (show RowE ((w4.setCell ⟨G, (i + k) * 2, none⟩ (.int .i64 p)).setCell ⟨G, (i + k) * 2 + 1, none⟩ (.int .i64 s)) w.heap.size (.slice (some ⟨G, 0, none⟩) n uc) p (lsU (lenR L2.length i (k + 1)) (rowF p L1 L2 (muU p L1 L2 i) i (k + 1))) ∧ Below w.heap.size w ((w4.setCell ⟨G, (i + k) * 2, none⟩ (.int .i64 p)).setCell ⟨G, (i + k) * 2 + 1, none⟩ (.int .i64 s)) ∧ BoxE ab p x ((w4.setCell ⟨G, (i + k) * 2, none⟩ (.int .i64 p)).setCell ⟨G, (i + k) * 2 + 1, none⟩ (.int .i64 s)) from by
              refine ⟨?_, ((HB.out.trans (HBr.out.mono HB.out.size)).setCell HGB.out _).setCell HGB.out _, ?_⟩
              · have := HF2.out.set (j := i + k) (by have := HLN.out; have := HIK.out; omega) s
                rw [HN.out, HLN.out] at this
                exact this
              · refine (HBX.out.below HBr.out).heap ?_
                rw [Below.heap_setCell _ _ _ _ (show ab ≠ G from fun e => HGN.out e.symm), Below.heap_setCell _ _ _ _ (show ab ≠ G from fun e => HGN.out e.symm)])
            go_wp2_with fail
            go_roundw
            case rel => exact ⟨k + 1, by omega, by go_num, H3.out.1, H3.out.2.1, H3.out.2.2, HNO.out⟩
            case measure => simp [intOf]; omega
        · have hkl2 : k = L2.length := by omega
          subst hkl2
          have hnl : ¬ (L2.length : Int) < (L2.length : Int) := by omega
          rw [lenR_all] at HF
          have HF2 := Lib.hid (show RowE wr w.heap.size u5 p (lsU (lenP L2.length (i + 1)) (muU p L1 L2 (i + 1))) from HF.out)
          clear HF
          go_wp2_with fail
          go_roundw
          case rel => exact ⟨i + 1, by omega, by go_num, HF2.out, HB.out⟩
          case measure => simp [intOf]; omega
    · have hil2 : i = L1.length := by omega
      subst hil2
      have HN := Lib.hid (show lsU (lenP L2.length L1.length) (muU p L1 L2 L1.length) = mlU p L1 L2 from by
        unfold lenP mlU
        by_cases h : L1.length = 0 ∨ L2.length = 0
        · rw [if_pos h, if_pos h]; rfl
        · rw [if_neg h, if_neg h])
      rw [HN.out] at HF
      go_wp2_with fail
      go_ret
      exact ⟨_, rfl, HF.out, HB.out⟩
end Go.Proofs.Ytfmpcniehgipfaa
namespace Go.Proofs.Ytfmpcniehgipfaa
set_option linter.unusedVariables false
open Go.RowKit
theorem add_mix {p : Int} {F G : List Int} (hF : AllE p F) (hl : G.length ≤ F.length) : mixL F.length (cf F) (fun j => (cf F j + cf G j) % p) G.length = lsU F.length (fun j => (cf F j + cf G j) % p) := by
  refine lsU_ext (fun j hj => ?_)
  by_cases h : j < G.length
  · rw [if_pos h]
  · rw [if_neg h, cf_ge (L := G) (by omega), Int.add_zero]
    exact (Int.emod_eq_of_lt (hF j).1 (hF j).2).symm
set_option maxRecDepth 100000 in
set_option maxHeartbeats 8000000 in
theorem iPlusLGe (p : Int) (v1 v2 : Value) (L1 L2 : List Int) (w : World) (hp : isP p = true) (h1 : Elr w v1 p L1) (h2 : Elr w v2 p L2) (hE1 : AllE p L1) (hE2 : AllE p L2) (hl1 : L1.length ≤ 1000) (hl2 : L2.length ≤ 1000) (hlen : L2.length ≤ L1.length) :
    Calls Try.prog 91 #[v1, v2] w fun e w' => ∃ u, e = .returned u ∧ RowE w' w.heap.size u p (addL p L1 L2) ∧ Below w.heap.size w w' := by
  obtain ⟨q1, q2⟩ := isP_bd hp
  have HP := Lib.hid hp
  have HEF := Lib.hid hE1
  have HEG := Lib.hid hE2
  have HG := Lib.hid h2
  have HC := Lib.hid (iCloneE p v1 L1 w h1)
  obtain ⟨a1, cap1, rfl⟩ := h1.form
  obtain ⟨a2, cap2, rfl⟩ := h2.form
  have hnl : ¬ (L1.length : Int) < (L2.length : Int) := by omega
  have HLE := Lib.hid (show L2.length ≤ L1.length by omega)
  have HMX := Lib.hid (show trimL (mixL L1.length (cf L1) (fun j => (cf L1 j + cf L2 j) % p) L2.length) = addL p L1 L2 from by
    rw [add_mix hE1 (by omega)]
    unfold addL
    rw [Nat.max_eq_left (by omega)])
  clear hp hE1 hE2 h1 h2 hlen
  go_enter Try.func91, Try.ntmps91
  go_wp2_with fail
  refine HC.out.mono ?_
  rintro e w1 ⟨u, rfl, hu, hb1⟩
  have HU := Lib.hid (show RowE w1 w.heap.size u p (mixL L1.length (cf L1) (fun j => (cf L1 j + cf L2 j) % p) 0) from by rw [mixL_zero, lsU_of]; exact hu)
  have HB1 := Lib.hid hb1
  clear hu hb1
  go_wp2_with fail
  go_loopw [19] (fun i wr => ∃ k : Nat, k ≤ L2.length ∧ i = .int .i64 k ∧ RowE wr w.heap.size u p (mixL L1.length (cf L1) (fun j => (cf L1 j + cf L2 j) % p) k) ∧ Below w.heap.size w wr) (fun i _ => L2.length - (intOf i).toNat)
  case atStart => exact ⟨0, by omega, rfl, HU.out, HB1.out⟩
  case round =>
    obtain ⟨k, hk, rfl, hf, hb⟩ := hrel
    have HF := Lib.hid hf
    have HB := Lib.hid hb
    clear hf hb
    by_cases hkl : k < L2.length
    · obtain ⟨g, off, capg, he, _, hg, hc⟩ := HG.out.some (by omega)
      simp only [Value.slice.injEq] at he
      obtain ⟨rfl, _, rfl⟩ := he
      obtain ⟨c0, c1⟩ := hc k hkl
      have hxb := HEG.out k
      have hzb := HEF.out k
      obtain ⟨x, hx⟩ : ∃ x, x = cf L2 k := ⟨_, rfl⟩
      rw [← hx] at c1 hxb
      have hkF : k < L1.length := by have := HLE.out; omega
      obtain ⟨G, C, hue, hGB, hGs, _, _⟩ := HF.out.at_ (by rw [mixL_len]; omega)
      rw [mixL_len] at hue
      subst hue
      have d0 : wr.cell? ⟨g, off + k * 2, none⟩ = some (.int .i64 p) := (HB.out.cell (p := ⟨g, off + k * 2, none⟩) hg).trans c0
      have d1 : wr.cell? ⟨g, off + k * 2 + 1, none⟩ = some (.int .i64 x) := (HB.out.cell (p := ⟨g, off + k * 2 + 1, none⟩) hg).trans c1
      have hkI : (k : Int) < (L2.length : Int) := by omega
      have hkIF : (k : Int) < (L1.length : Int) := by omega
      have hk0 : (0 : Int) ≤ (k : Int) := by omega
      have HLN := Lib.hid (mixL_len L1.length (cf L1) (fun j => (cf L1 j + cf L2 j) % p) k)
      have hcz := mixL_cf (c := cf L1) (d := fun j => (cf L1 j + cf L2 j) % p) hkF
      obtain ⟨z, hz⟩ : ∃ z, z = cf L1 k := ⟨_, rfl⟩
      rw [← hz] at hcz hzb
      obtain ⟨y, hy⟩ : ∃ y, y = (z + x) % p := ⟨_, rfl⟩
      have HM := Lib.hid (fun w => iPlus p z x HP.out hzb.1 hzb.2 hxb.1 hxb.2 w)
      rw [← hy] at HM
      have HN := Lib.hid (show (mixL L1.length (cf L1) (fun j => (cf L1 j + cf L2 j) % p) k).set k y = mixL L1.length (cf L1) (fun j => (cf L1 j + cf L2 j) % p) (k + 1) from by rw [hy, hx, hz]; exact mixL_set hkF)
      obtain ⟨M, hM⟩ : ∃ M, M = mixL L1.length (cf L1) (fun j => (cf L1 j + cf L2 j) % p) k := ⟨_, rfl⟩
      rw [← hM] at HF HN HLN hcz
      have HCZ := Lib.hid hcz
      have HROW := Lib.hid (fun w' (hb : Below wr.heap.size wr w') => show RowE w' w.heap.size (.slice (some ⟨G, 0, none⟩) M.length C) p M from by rw [HLN.out]; exact HF.out.below hb)
      clear hc c0 c1 hx hy hxb hzb hM hz hcz
      obtain ⟨W2, hW2⟩ : ∃ W2, W2 = wr.alloc (Obj.cells #[.int .i64 p, .int .i64 x] 61) := ⟨_, rfl⟩
      have HBX := Lib.hid (show BoxE wr.heap.size p x W2 from by rw [hW2]; exact BoxE.new wr p x _)
      have HBW2 := Lib.hid (show Below wr.heap.size wr W2 from by rw [hW2]; exact Below.alloc (Below.refl _ _) (Nat.le_refl _) _)
      have HS := Lib.hid (fun w' (hb : Below W2.heap.size W2 w') => show w'.cell? ⟨G, k * 2, none⟩ = some (.int .i64 p) ∧ w'.cell? ⟨G, k * 2 + 1, none⟩ = some (.int .i64 z) ∧ w'.cell? ⟨wr.heap.size, 0, none⟩ = some (.int .i64 p) ∧ w'.cell? ⟨wr.heap.size, 1, none⟩ = some (.int .i64 x) from by
        have hr := HROW.out w' (HBW2.out.trans (hb.mono HBW2.out.size))
        have e := hr.cells (j := k) (by have := HLN.out; omega)
        rw [HCZ.out] at e
        have hx := HBX.out.below hb
        exact ⟨e.1, e.2, hx.c0, hx.c1⟩)
      go_wp2_with fail
      rw [← hW2]
      clear hW2
      refine wp_region_seq [(0, true), (1, true), (2, true), (3, true), (4, true), (5, true), (6, true), (7, true), (8, false), (9, true)] (fun w' => w'.cell? ⟨G, k * 2, none⟩ = some (.int .i64 p) ∧ w'.cell? ⟨G, k * 2 + 1, none⟩ = some (.int .i64 z) ∧ w'.cell? ⟨wr.heap.size, 0, none⟩ = some (.int .i64 p) ∧ w'.cell? ⟨wr.heap.size, 1, none⟩ = some (.int .i64 x)) (by kernel_rfl) (by kernel_rfl) rfl (by intro c a d v w h; cases d <;> exact h) (HS.out _ (Below.drew (Below.refl _ _))) ?_
      iterate 8 (refine wpSeq_take (v := ?_) (List.getElem?_toArray.trans rfl) ?_ ?_; rotate_left; (intro w' hSw; (try dsimp only at hSw); go_simp; (try with_reducible rfl)); (try simp only [Act.put, List.setIfInBounds_toArray, List.set_cons_zero, List.set_cons_succ]))
      refine wpSeq_do (List.getElem?_toArray.trans rfl) (fun K hK => ?_)
      go_simp
      refine (HM.out _).mono ?_
      rintro e w3 ⟨rfl, hb3⟩
      have HB3 := Lib.hid (show Below W2.heap.size W2 w3 from (Below.drew (Below.refl _ W2)).trans (hb3.mono (by simp)))
      refine hK _ _ (HS.out _ HB3.out) ?_
      clear hK K hb3
      (refine wpSeq_take (v := ?_) (List.getElem?_toArray.trans rfl) ?_ ?_; rotate_left; (intro w' hSw; (try dsimp only at hSw); go_simp; (try with_reducible rfl)); (try simp only [Act.put, List.setIfInBounds_toArray, List.set_cons_zero, List.set_cons_succ]))
      refine wpSeq_nil ?_
      simp only [Exit.then]
      have HBr := Lib.hid (HBW2.out.trans (HB3.out.mono HBW2.out.size))
      have HF2 := Lib.hid (HROW.out w3 HBr.out)
      have e0 := (HF2.out.cells (j := k) (by have := HLN.out; omega)).1
      have e1 := (HF2.out.cells (j := k) (by have := HLN.out; omega)).2
      have f0 := HF2.out.froz rfl (k * 2)
      have f1 := HF2.out.froz rfl (k * 2 + 1)
      have H3 := Lib.hid (show RowE ((w3.setCell ⟨G, k * 2, none⟩ (.int .i64 p)).setCell ⟨G, k * 2 + 1, none⟩ (.int .i64 y)) w.heap.size (.slice (some ⟨G, 0, none⟩) L1.length C) p (mixL L1.length (cf L1) (fun j => (cf L1 j + cf L2 j) % p) (k + 1)) ∧ Below w.heap.size w ((w3.setCell ⟨G, k * 2, none⟩ (.int .i64 p)).setCell ⟨G, k * 2 + 1, none⟩ (.int .i64 y)) from by
        refine ⟨?_, ((HB.out.trans (HBr.out.mono HB.out.size)).setCell hGB _).setCell hGB _⟩
        have := HF2.out.set (j := k) (by have := HLN.out; omega) y
        rw [HN.out, HLN.out] at this
        exact this)
      go_wp2_with fail
      go_roundw
      case rel => exact ⟨k + 1, by omega, by go_num, H3.out⟩
      case measure => simp [intOf]; omega
    · have hkl2 : k = L2.length := by omega
      subst hkl2
      have HLN := Lib.hid (mixL_len L1.length (cf L1) (fun j => (cf L1 j + cf L2 j) % p) L2.length)
      have hME : AllE p (mixL L1.length (cf L1) (fun j => (cf L1 j + cf L2 j) % p) L2.length) := allE_lst (by omega) (fun j hj => by
        split
        · exact emod_bdU (by omega) _
        · exact HEF.out j)
      have HT := Lib.hid (iTrimmed p u _ wr HP.out (HF.out.elr (by rw [HLN.out]; omega)) hME (by rw [HLN.out]; omega))
      rw [HMX.out] at HT
      clear hME
      go_wp2_with fail
      refine HT.out.mono ?_
      rintro e w5 ⟨u5, rfl, hu5, hb5⟩
      have H5 := Lib.hid (show RowE w5 w.heap.size u5 p (addL p L1 L2) ∧ Below w.heap.size w w5 from ⟨hu5.base HB.out.size, HB.out.trans (hb5.mono HB.out.size)⟩)
      clear hu5 hb5
      go_wp2_with fail
      go_ret
      exact ⟨_, rfl, H5.out⟩
set_option maxRecDepth 100000 in
set_option maxHeartbeats 8000000 in
theorem iPlusLLt (p : Int) (v1 v2 : Value) (L1 L2 : List Int) (w : World) (hp : isP p = true) (h1 : Elr w v1 p L1) (h2 : Elr w v2 p L2) (hE1 : AllE p L1) (hE2 : AllE p L2) (hl1 : L1.length ≤ 1000) (hl2 : L2.length ≤ 1000) (hlen : L1.length < L2.length) :
    Calls Try.prog 91 #[v1, v2] w fun e w' => ∃ u, e = .returned u ∧ RowE w' w.heap.size u p (addL p L1 L2) ∧ Below w.heap.size w w' := by
  obtain ⟨q1, q2⟩ := isP_bd hp
  have HP := Lib.hid hp
  have HEF := Lib.hid hE2
  have HEG := Lib.hid hE1
  have HG := Lib.hid h1
  have HC := Lib.hid (iCloneE p v2 L2 w h2)
  obtain ⟨a1, cap1, rfl⟩ := h1.form
  obtain ⟨a2, cap2, rfl⟩ := h2.form
  have hlt0 : (L1.length : Int) < (L2.length : Int) := by omega
  have HLE := Lib.hid (show L1.length ≤ L2.length by omega)
  have HMX := Lib.hid (show trimL (mixL L2.length (cf L2) (fun j => (cf L2 j + cf L1 j) % p) L1.length) = addL p L1 L2 from by
    rw [add_mix hE2 (by omega)]
    rw [addL_comm]; unfold addL
    rw [Nat.max_eq_left (by omega)])
  clear hp hE1 hE2 h1 h2 hlen
  go_enter Try.func91, Try.ntmps91
  go_wp2_with fail
  refine HC.out.mono ?_
  rintro e w1 ⟨u, rfl, hu, hb1⟩
  have HU := Lib.hid (show RowE w1 w.heap.size u p (mixL L2.length (cf L2) (fun j => (cf L2 j + cf L1 j) % p) 0) from by rw [mixL_zero, lsU_of]; exact hu)
  have HB1 := Lib.hid hb1
  clear hu hb1
  go_wp2_with fail
  go_loopw [19] (fun i wr => ∃ k : Nat, k ≤ L1.length ∧ i = .int .i64 k ∧ RowE wr w.heap.size u p (mixL L2.length (cf L2) (fun j => (cf L2 j + cf L1 j) % p) k) ∧ Below w.heap.size w wr) (fun i _ => L1.length - (intOf i).toNat)
  case atStart => exact ⟨0, by omega, rfl, HU.out, HB1.out⟩
  case round =>
    obtain ⟨k, hk, rfl, hf, hb⟩ := hrel
    have HF := Lib.hid hf
    have HB := Lib.hid hb
    clear hf hb
    by_cases hkl : k < L1.length
    · obtain ⟨g, off, capg, he, _, hg, hc⟩ := HG.out.some (by omega)
      simp only [Value.slice.injEq] at he
      obtain ⟨rfl, _, rfl⟩ := he
      obtain ⟨c0, c1⟩ := hc k hkl
      have hxb := HEG.out k
      have hzb := HEF.out k
      obtain ⟨x, hx⟩ : ∃ x, x = cf L1 k := ⟨_, rfl⟩
      rw [← hx] at c1 hxb
      have hkF : k < L2.length := by have := HLE.out; omega
      obtain ⟨G, C, hue, hGB, hGs, _, _⟩ := HF.out.at_ (by rw [mixL_len]; omega)
      rw [mixL_len] at hue
      subst hue
      have d0 : wr.cell? ⟨g, off + k * 2, none⟩ = some (.int .i64 p) := (HB.out.cell (p := ⟨g, off + k * 2, none⟩) hg).trans c0
      have d1 : wr.cell? ⟨g, off + k * 2 + 1, none⟩ = some (.int .i64 x) := (HB.out.cell (p := ⟨g, off + k * 2 + 1, none⟩) hg).trans c1
      have hkI : (k : Int) < (L1.length : Int) := by omega
      have hkIF : (k : Int) < (L2.length : Int) := by omega
      have hk0 : (0 : Int) ≤ (k : Int) := by omega
      have HLN := Lib.hid (mixL_len L2.length (cf L2) (fun j => (cf L2 j + cf L1 j) % p) k)
      have hcz := mixL_cf (c := cf L2) (d := fun j => (cf L2 j + cf L1 j) % p) hkF
      obtain ⟨z, hz⟩ : ∃ z, z = cf L2 k := ⟨_, rfl⟩
      rw [← hz] at hcz hzb
      obtain ⟨y, hy⟩ : ∃ y, y = (z + x) % p := ⟨_, rfl⟩
      have HM := Lib.hid (fun w => iPlus p z x HP.out hzb.1 hzb.2 hxb.1 hxb.2 w)
      rw [← hy] at HM
      have HN := Lib.hid (show (mixL L2.length (cf L2) (fun j => (cf L2 j + cf L1 j) % p) k).set k y = mixL L2.length (cf L2) (fun j => (cf L2 j + cf L1 j) % p) (k + 1) from by rw [hy, hx, hz]; exact mixL_set hkF)
      obtain ⟨M, hM⟩ : ∃ M, M = mixL L2.length (cf L2) (fun j => (cf L2 j + cf L1 j) % p) k := ⟨_, rfl⟩
      rw [← hM] at HF HN HLN hcz
      have HCZ := Lib.hid hcz
      have HROW := Lib.hid (fun w' (hb : Below wr.heap.size wr w') => show RowE w' w.heap.size (.slice (some ⟨G, 0, none⟩) M.length C) p M from by rw [HLN.out]; exact HF.out.below hb)
      clear hc c0 c1 hx hy hxb hzb hM hz hcz
      obtain ⟨W2, hW2⟩ : ∃ W2, W2 = wr.alloc (Obj.cells #[.int .i64 p, .int .i64 x] 61) := ⟨_, rfl⟩
      have HBX := Lib.hid (show BoxE wr.heap.size p x W2 from by rw [hW2]; exact BoxE.new wr p x _)
      have HBW2 := Lib.hid (show Below wr.heap.size wr W2 from by rw [hW2]; exact Below.alloc (Below.refl _ _) (Nat.le_refl _) _)
      have HS := Lib.hid (fun w' (hb : Below W2.heap.size W2 w') => show w'.cell? ⟨G, k * 2, none⟩ = some (.int .i64 p) ∧ w'.cell? ⟨G, k * 2 + 1, none⟩ = some (.int .i64 z) ∧ w'.cell? ⟨wr.heap.size, 0, none⟩ = some (.int .i64 p) ∧ w'.cell? ⟨wr.heap.size, 1, none⟩ = some (.int .i64 x) from by
        have hr := HROW.out w' (HBW2.out.trans (hb.mono HBW2.out.size))
        have e := hr.cells (j := k) (by have := HLN.out; omega)
        rw [HCZ.out] at e
        have hx := HBX.out.below hb
        exact ⟨e.1, e.2, hx.c0, hx.c1⟩)
      go_wp2_with fail
      rw [← hW2]
      clear hW2
      refine wp_region_seq [(0, true), (1, true), (2, true), (3, true), (4, true), (5, true), (6, true), (7, true), (8, false), (9, true)] (fun w' => w'.cell? ⟨G, k * 2, none⟩ = some (.int .i64 p) ∧ w'.cell? ⟨G, k * 2 + 1, none⟩ = some (.int .i64 z) ∧ w'.cell? ⟨wr.heap.size, 0, none⟩ = some (.int .i64 p) ∧ w'.cell? ⟨wr.heap.size, 1, none⟩ = some (.int .i64 x)) (by kernel_rfl) (by kernel_rfl) rfl (by intro c a d v w h; cases d <;> exact h) (HS.out _ (Below.drew (Below.refl _ _))) ?_
      iterate 8 (refine wpSeq_take (v := ?_) (List.getElem?_toArray.trans rfl) ?_ ?_; rotate_left; (intro w' hSw; (try dsimp only at hSw); go_simp; (try with_reducible rfl)); (try simp only [Act.put, List.setIfInBounds_toArray, List.set_cons_zero, List.set_cons_succ]))
      refine wpSeq_do (List.getElem?_toArray.trans rfl) (fun K hK => ?_)
      go_simp
      refine (HM.out _).mono ?_
      rintro e w3 ⟨rfl, hb3⟩
      have HB3 := Lib.hid (show Below W2.heap.size W2 w3 from (Below.drew (Below.refl _ W2)).trans (hb3.mono (by simp)))
      refine hK _ _ (HS.out _ HB3.out) ?_
      clear hK K hb3
      (refine wpSeq_take (v := ?_) (List.getElem?_toArray.trans rfl) ?_ ?_; rotate_left; (intro w' hSw; (try dsimp only at hSw); go_simp; (try with_reducible rfl)); (try simp only [Act.put, List.setIfInBounds_toArray, List.set_cons_zero, List.set_cons_succ]))
      refine wpSeq_nil ?_
      simp only [Exit.then]
      have HBr := Lib.hid (HBW2.out.trans (HB3.out.mono HBW2.out.size))
      have HF2 := Lib.hid (HROW.out w3 HBr.out)
      have e0 := (HF2.out.cells (j := k) (by have := HLN.out; omega)).1
      have e1 := (HF2.out.cells (j := k) (by have := HLN.out; omega)).2
      have f0 := HF2.out.froz rfl (k * 2)
      have f1 := HF2.out.froz rfl (k * 2 + 1)
      have H3 := Lib.hid (show RowE ((w3.setCell ⟨G, k * 2, none⟩ (.int .i64 p)).setCell ⟨G, k * 2 + 1, none⟩ (.int .i64 y)) w.heap.size (.slice (some ⟨G, 0, none⟩) L2.length C) p (mixL L2.length (cf L2) (fun j => (cf L2 j + cf L1 j) % p) (k + 1)) ∧ Below w.heap.size w ((w3.setCell ⟨G, k * 2, none⟩ (.int .i64 p)).setCell ⟨G, k * 2 + 1, none⟩ (.int .i64 y)) from by
        refine ⟨?_, ((HB.out.trans (HBr.out.mono HB.out.size)).setCell hGB _).setCell hGB _⟩
        have := HF2.out.set (j := k) (by have := HLN.out; omega) y
        rw [HN.out, HLN.out] at this
        exact this)
      go_wp2_with fail
      go_roundw
      case rel => exact ⟨k + 1, by omega, by go_num, H3.out⟩
      case measure => simp [intOf]; omega
    · have hkl2 : k = L1.length := by omega
      subst hkl2
      have HLN := Lib.hid (mixL_len L2.length (cf L2) (fun j => (cf L2 j + cf L1 j) % p) L1.length)
      have hME : AllE p (mixL L2.length (cf L2) (fun j => (cf L2 j + cf L1 j) % p) L1.length) := allE_lst (by omega) (fun j hj => by
        split
        · exact emod_bdU (by omega) _
        · exact HEF.out j)
      have HT := Lib.hid (iTrimmed p u _ wr HP.out (HF.out.elr (by rw [HLN.out]; omega)) hME (by rw [HLN.out]; omega))
      rw [HMX.out] at HT
      clear hME
      go_wp2_with fail
      refine HT.out.mono ?_
      rintro e w5 ⟨u5, rfl, hu5, hb5⟩
      have H5 := Lib.hid (show RowE w5 w.heap.size u5 p (addL p L1 L2) ∧ Below w.heap.size w w5 from ⟨hu5.base HB.out.size, HB.out.trans (hb5.mono HB.out.size)⟩)
      clear hu5 hb5
      go_wp2_with fail
      go_ret
      exact ⟨_, rfl, H5.out⟩
theorem iPlusL (p : Int) (v1 v2 : Value) (L1 L2 : List Int) (w : World) (hp : isP p = true) (h1 : Elr w v1 p L1) (h2 : Elr w v2 p L2) (hE1 : AllE p L1) (hE2 : AllE p L2) (hl1 : L1.length ≤ 1000) (hl2 : L2.length ≤ 1000) :
    Calls Try.prog 91 #[v1, v2] w fun e w' => ∃ u, e = .returned u ∧ RowE w' w.heap.size u p (addL p L1 L2) ∧ Below w.heap.size w w' := by
  by_cases h : L1.length < L2.length
  · exact iPlusLLt p v1 v2 L1 L2 w hp h1 h2 hE1 hE2 hl1 hl2 h
  · exact iPlusLGe p v1 v2 L1 L2 w hp h1 h2 hE1 hE2 hl1 hl2 (by omega)
end Go.Proofs.Ytfmpcniehgipfaa
