/-
  The walk of the law of PolyOfCircuit, with appended bytes. Conditions: none but that the bytes can be read.
-/
import Derived.Test.YtegkcfinklcglaaBs9
import Derived.Test.YtegkcfinklcglaaBp24
import Derived.Test.YtegkcfinklcglaaBs12
import Derived.Test.YtegkcfinklcglaaBs6
import Derived.Test.YtegkcfinklcglaaBs5
import Derived.Test.YtegkcfinklcglaaBp16
import Derived.Test.YtegkcfinklcglaaBs4
import Derived.Test.YtegkcfinklcglaaBp11
namespace Go.Proofs.Ytegkcfinklcglaa
open Go.RowKit
set_option maxHeartbeats 1000000 in
theorem drawPolyOfCircuit (a : Option Addr) (len cap : Nat) (w : World) (h : ByteRow w a len cap) :
    Calls Try.prog 47 #[.slice a len cap] w (DrawC w) := by
  go_enter Try.func47, Try.ntmps47
  go_wp2_with fail
  refine (open_any a len cap w h).mono ?_
  rintro e w1 ⟨a1, l1, c1, rfl, hR1, hb1⟩
  go_wp2_with fail
  refine (circ_any w.heap.size a1 l1 c1 0 w1 hR1 (by omega)).mono ?_
  rintro e w2 ⟨p, v, M, q, rfl, hp, hM, hq, hR2, hr2, hn2, hg2⟩
  have hO := Lib.hid ((hr2.mono hb1.size).own (by omega))
  have hB := Lib.hid (below_reader' hb1 hg2)
  clear hR1 hR2 hr2 hb1 hg2
  go_wp2_with fail
  refine bodyPost_ret (v := .tuple #[.int .i64 p, v]) (by simp [results, Try.results47, go_sem]) rfl ⟨p, v, M, rfl, hp, hM, hO.out, hn2, hB.out⟩
theorem infoU : (Try.prog.info? 5).map (fun i => (i.zero, i.size, i.bytes)) = some (some (.int .u8 0), 1, 1) := by kernel_rfl
/-- values that are bytes -/
def ByL (xs : List Value) : Prop := ∀ u ∈ xs, ∃ z : Int, 0 ≤ z ∧ z < 256 ∧ u = .int .u8 z
theorem ByL.one {xs : List Value} (h : ByL xs) : ∀ u ∈ xs, u.oneCell' = true := fun u hu => by
  obtain ⟨z, _, _, rfl⟩ := h u hu
  rfl
theorem bytes_list {w : World} {g off : Nat} : ∀ len : Nat, (∀ i : Nat, i < len → ∃ z : Int, 0 ≤ z ∧ z < 256 ∧ w.cell? ⟨g, off + i, none⟩ = some (.int .u8 z)) →
    ∃ xs : List Value, xs.length = len ∧ ByL xs ∧ ∀ j u, xs[j]? = some u → w.cell? ((⟨g, off, none⟩ : Addr).add j) = some u
  | 0, _ => ⟨[], rfl, (fun u hu => by cases hu), fun j u h => by simp at h⟩
  | n + 1, h => by
    obtain ⟨xs, h1, h2, h3⟩ := bytes_list n (fun i hi => h i (by omega))
    obtain ⟨z, z0, z1, hz⟩ := h n (by omega)
    refine ⟨xs ++ [.int .u8 z], by simp [h1], fun u hu => ?_, fun j u hu => ?_⟩
    · rcases List.mem_append.1 hu with hu | hu
      · exact h2 u hu
      · exact ⟨z, z0, z1, List.mem_singleton.1 hu⟩
    · by_cases hj : j < xs.length
      · rw [List.getElem?_append_left hj] at hu
        exact h3 j u hu
      · rw [List.getElem?_append_right (by omega)] at hu
        have hjn : j - xs.length = 0 := by
          by_cases e : j - xs.length = 0
          · exact e
          · rw [List.getElem?_eq_none (by simp; omega)] at hu; cases hu
        rw [hjn] at hu
        simp only [List.getElem?_cons_zero, Option.some.injEq] at hu
        subst hu
        have : j = n := by omega
        subst this
        rw [Addr.add_lit]
        exact hz
/-- a row of bytes of the call's own -/
def RowU (w : World) (B : Nat) (v : Value) (n : Nat) : Prop := ∃ xs, w.ownsRow B 5 1 v n xs ∧ ByL xs
theorem RowU.byte {w : World} {B n : Nat} {v : Value} (h : RowU w B v n) : ∃ a cap, v = .slice a n cap ∧ ByteRow w a n cap := by
  obtain ⟨xs, ⟨hl, hs⟩, hb⟩ := h
  rcases hs with ⟨rfl, rfl⟩ | ⟨g, cap, cur, rfl, h1, h2, h3, h4, h5, h6⟩
  · exact ⟨none, 0, rfl, Nat.le_refl _, by omega, .inl rfl⟩
  · refine ⟨_, cap, rfl, h3, by unfold maxLen at h4; omega, .inr ⟨g, 0, rfl, (Array.getElem?_eq_some_iff.1 h2).1, fun i hi => ?_⟩⟩
    have hil : i < xs.length := by omega
    obtain ⟨z, z0, z1, hz⟩ := hb xs[i] (List.getElem_mem hil)
    refine ⟨z, z0, z1, ?_⟩
    have hc := World.ownsRow.cells (w := w) (base := B) (e := 5) (size := 1) (v := .slice (some ⟨g, 0, none⟩) n cap) (n := n) (xs := xs) ⟨hl, .inr ⟨g, cap, cur, rfl, h1, h2, h3, h4, h5, h6⟩⟩ rfl i xs[i] (List.getElem?_eq_getElem hil)
    rw [Addr.add_lit, hz] at hc
    exact hc
theorem bytes_copy {W : World} {a : Option Addr} {len cap : Nat} (h : ByteRow W a len cap) (hl : len ≤ 1048576) (ty : TypeId) :
    ∃ v' w', (Builtin.append_ #[22, 22] ty #[.slice (some ⟨W.heap.size, 0, none⟩) 0 0, .slice a len cap]).run Try.prog (W.alloc (.cells #[] 5)) = .ok v' w' ∧ RowU w' W.heap.size v' len ∧ Below W.heap.size W w' := by
  obtain ⟨i0, hi, hz0, hz1, hz2⟩ := info_parts infoU
  have hb : Below W.heap.size W (W.alloc (.cells #[] 5)) := Below.alloc (Below.refl _ _) (Nat.le_refl _) _
  have hL0 : (W.alloc (.cells #[] 5)).ownsRow W.heap.size 5 1 (.slice (some ⟨W.heap.size, 0, none⟩) 0 0) 0 [] := World.ownsRow_lit (size := 1) W #[] 0 (Nat.le_refl _) (by unfold maxLen; omega) rfl
  obtain ⟨hc1, hc2, h3⟩ := h
  rcases h3 with rfl | ⟨g, off, rfl, hg, hc⟩
  · exact ⟨_, _, run_append_zero _ 22 ty _ i0 Try.underlying22 hi _ a cap, ⟨[], hL0, fun u hu => by cases hu⟩, hb⟩
  · obtain ⟨xs, x1, x2, x3⟩ := bytes_list (w := W.alloc (.cells #[] 5)) (g := g) (off := off) len (fun i hi => by
      obtain ⟨z, z0, z1, hz⟩ := hc i hi
      exact ⟨z, z0, z1, by rw [hb.cell (p := ⟨g, off + i, none⟩) hg]; exact hz⟩)
    obtain ⟨v', w', hr, hown, hgrow, _⟩ := run_append_own_at (P := Try.prog) (W.alloc (.cells #[] 5)) W.heap.size 22 ty 5 i0 (.int .u8 0) 1 1 Try.underlying22 hi hz0 hz1 hz2 rfl (by decide) _ 0 [] hL0 ⟨g, off, none⟩ len cap xs (by omega) x3 x2.one (by unfold maxLen; omega) (by omega) (by simp)
    refine ⟨v', w', hr, ⟨xs, by simpa using hown, x2⟩, hb.trans ?_⟩
    exact ⟨hgrow.os, hgrow.tape, hgrow.output, hgrow.size, fun k hk => hgrow.block k (by simp; omega) (fun e => by have e2 : W.heap.size = k := (Option.some.inj e).symm; omega)⟩
theorem bytes_two {W : World} {B n : Nat} {v : Value} (h : RowU W B v n) (hB : B ≤ W.heap.size) (hn : n ≤ 1048576) (b1 b2 : Int) (h1 : 0 ≤ b1 ∧ b1 < 256) (h2 : 0 ≤ b2 ∧ b2 < 256) (ty : TypeId) :
    ∃ v' w', (Builtin.append_ #[22, 22] ty #[v, .slice (some ⟨W.heap.size, 0, none⟩) 2 2]).run Try.prog (W.alloc (.cells #[.int .u8 b1, .int .u8 b2] 5)) = .ok v' w' ∧ RowU w' B v' (n + 2) ∧ Below B W w' := by
  obtain ⟨i0, hi, hz0, hz1, hz2⟩ := info_parts infoU
  have hb : Below W.heap.size W (W.alloc (.cells #[.int .u8 b1, .int .u8 b2] 5)) := Below.alloc (Below.refl _ _) (Nat.le_refl _) _
  obtain ⟨xs, ho, hx⟩ := h
  have ho1 : (W.alloc (.cells #[.int .u8 b1, .int .u8 b2] 5)).ownsRow B 5 1 v n xs := World.ownsRow.kept (row := none) ho ⟨hb.os, hb.tape, hb.output, hb.size, fun k hk _ => hb.block k hk⟩ (by cases v.ownBlock <;> simp)
  have hB2 : ByL [.int .u8 b1, .int .u8 b2] := fun u hu => by
    simp only [List.mem_cons, List.mem_nil_iff, or_false] at hu
    rcases hu with rfl | rfl
    · exact ⟨b1, h1.1, h1.2, rfl⟩
    · exact ⟨b2, h2.1, h2.2, rfl⟩
  obtain ⟨v', w', hr, hown, hgrow, _⟩ := run_append_own_at (P := Try.prog) (W.alloc (.cells #[.int .u8 b1, .int .u8 b2] 5)) B 22 ty 5 i0 (.int .u8 0) 1 1 Try.underlying22 hi hz0 hz1 hz2 rfl (by decide) v n xs ho1 ⟨W.heap.size, 0, none⟩ 2 2 [.int .u8 b1, .int .u8 b2] rfl
    (fun j u hu => by
      match j, hu with
      | 0, hu => simp at hu; subst hu; simp [Addr.add, go_sem]
      | 1, hu => simp at hu; subst hu; simp [Addr.add, go_sem]
      | j + 2, hu => simp at hu) hB2.one (by unfold maxLen; omega) (by omega) (by simp; omega)
  refine ⟨v', w', hr, ⟨xs ++ [.int .u8 b1, .int .u8 b2], hown, fun u hu => ?_⟩, (hb.mono hB).trans ?_⟩
  · rcases List.mem_append.1 hu with hu | hu
    · exact hx u hu
    · exact hB2 u hu
  · exact ⟨hgrow.os, hgrow.tape, hgrow.output, hgrow.size, fun k hk => hgrow.block k (by simp; omega) (fun e => by have := (World.ownsRow.lt ho1 k e.symm).1; omega)⟩
/-- gates and polynomials that read behind a world -/
structure GK (w0 : World) (c : Value) (G : List Gt) (zs : List VT) (wr : World) : Prop where
  low : Below w0.heap.size w0 wr
  gs : Gats wr c G
  rd : ∀ z ∈ zs, Trms wr z.1 z.2
theorem GK.on {w0 wr w' : World} {c : Value} {G : List Gt} {zs : List VT} (h : GK w0 c G zs wr) (hb : Below wr.heap.size wr w') : GK w0 c G zs w' :=
  ⟨h.low.trans (hb.mono h.low.size), h.gs.below hb, fun z hz => (h.rd z hz).below hb⟩
theorem GK.add {w0 wr : World} {c : Value} {G : List Gt} {zs : List VT} (h : GK w0 c G zs wr) {v : Value} {L : List Trm} (hv : Trms wr v L) : GK w0 c G ((v, L) :: zs) wr :=
  ⟨h.low, h.gs, fun z hz => by
    rcases List.mem_cons.1 hz with rfl | hz
    · exact hv
    · exact h.rd z hz⟩
theorem GK.g {w0 wr : World} {c : Value} {G : List Gt} {zs : List VT} (h : GK w0 c G zs wr) {v : Value} {L : List Trm} (hm : (v, L) ∈ zs) : Trms wr v L := h.rd _ hm
set_option maxRecDepth 100000 in
set_option maxHeartbeats 16000000 in
theorem wPolyOfCircuit_in (a : Option Addr) (len cap : Nat) (a' : Option Addr) (len' cap' : Nat) (w : World) (h : ByteRow w a len cap) (h' : ByteRow w a' len' cap') (hl : len ≤ 1048576) (hl' : len' ≤ 1048576) :
    Calls Try.prog 9 #[.slice a len cap, .slice a' len' cap'] w fun e w' => e = .returned (.bool true) ∧ Below w.heap.size w w' := by
  have hlp : (len : Int) ≤ 1048576 := by omega
  have hlp' : (len' : Int) ≤ 1048576 := by omega
  have HB' := Lib.hid h'
  have HD := Lib.hid (drawPolyOfCircuit a len cap w h)
  clear h h'
  go_enter Try.func9, Try.ntmps9
  go_wp2_with fail
  refine HD.out.mono ?_
  rintro e w1 ⟨p, c, G, rfl, _, hG, ho1, _, hb1⟩
  have HK1 := Lib.hid (show GK w c G [] w1 from ⟨hb1, ho1.gats, fun z hz => by cases hz⟩)
  clear ho1 hb1 HD
  go_wp2_with fail
  refine (iPolyOfCircuit p c G w1 HK1.out.gs).mono ?_
  rintro e w2 ⟨hv, rfl, ho, hb⟩
  have HK2 := Lib.hid ((HK1.out.on hb).add ho.trms)
  clear ho hb HK1
  go_wp2_with fail
  refine (sPolyOfCircuit p c G w2 HK2.out.gs).mono ?_
  rintro e w3 ⟨wv, rfl, ho, hb⟩
  have HK3 := Lib.hid ((HK2.out.on hb).add ho.trms)
  clear ho hb HK2
  obtain ⟨ok, hok⟩ : ∃ ok, ok = pcOk p G := ⟨_, rfl⟩
  have HOK := Lib.hid hok
  rw [← hok]
  clear hok
  have hbb : (ok != ok) = false := by cases ok <;> rfl
  go_wp2_with fail
  refine (acP hv wv (pcV p G) w3 (HK3.out.g (by simp)) (HK3.out.g (by simp))).mono ?_
  rintro e w4 ⟨rfl, hb⟩
  have HK4 := Lib.hid (HK3.out.on hb)
  clear hb HK3
  cases ok
  · go_wp2_with fail
    refine (acP hv wv (pcV p G) w4 (HK4.out.g (by simp)) (HK4.out.g (by simp))).mono ?_
    rintro e w5 ⟨rfl, hb⟩
    have HK5 := Lib.hid (HK4.out.on hb)
    clear hb HK4
    go_wp2_with fail
    go_ret
    exact ⟨rfl, HK5.out.low⟩
  · have hF := pcF_law HOK.out.symm
    generalize pcV p G = F at HK4 hF
    have HF := Lib.hid hF
    obtain ⟨_, hG1, hG2, _⟩ := circB_iff.1 hF.hc
    clear hF
    obtain ⟨_, ca, cc, rfl, hcf⟩ := HK4.out.gs
    have hcs : ∃ g off, ca = some ⟨g, off, none⟩ := by
      rcases hcf with rfl | ⟨g, off, h, _⟩
      · simp at hG1
      · exact ⟨g, off, h⟩
    obtain ⟨gc, oc, rfl⟩ := hcs
    clear hcf
    obtain ⟨n, hn⟩ : ∃ n : Nat, n = G.length - 1 := ⟨_, rfl⟩
    have hnl : (G.length : Int) - 1 = (n : Int) := by omega
    have hwn : IntKind.i64.wrap ((G.length : Int) - 1) = (n : Int) := by rw [hnl]; exact IntWalk.i64_in _ (by omega)
    have hn0 : (0 : Int) ≤ (n : Int) := by omega
    have hng : (n : Int) < (G.length : Int) := by omega
    have HN := Lib.hid hn
    clear hn hnl
    go_wp2_with fail
    go_loopw [60] (fun i wr => ∃ k : Nat, k ≤ 4 ∧ i = .int .i64 k ∧ GK w (.slice (some ⟨gc, oc, none⟩) G.length cc) G [(hv, F)] wr) (fun i _ => 4 - (intOf i).toNat)
    case atStart => exact ⟨0, by omega, rfl, HK4.out.low, HK4.out.gs, fun z hz => HK4.out.rd z (by simp at hz ⊢; exact .inr hz)⟩
    case round =>
      clear HK4
      obtain ⟨k, hk, rfl, hK⟩ := hrel
      have HK := Lib.hid hK
      clear hK
      by_cases hlt : k < 4
      · have hltp : (k : Int) < 4 := by omega
        have e1 : IntKind.i64.wrap (3 * (k : Int)) = 3 * (k : Int) := IntWalk.i64_in _ (by omega)
        have e2 : IntKind.i64.wrap (5 * (k : Int)) = 5 * (k : Int) := IntWalk.i64_in _ (by omega)
        have e3 : IntKind.u8.wrap (3 * (k : Int)) = 3 * (k : Int) := IntWalk.u8_in _ (by omega)
        have e4 : IntKind.u8.wrap (5 * (k : Int)) = 5 * (k : Int) := IntWalk.u8_in _ (by omega)
        obtain ⟨v1, w5, hr1, hu1, hb1⟩ := bytes_copy (HB'.out.below HK.out.low) hl' 22
        obtain ⟨v2, w6, hr2, hu2, hb2⟩ := bytes_two hu1 hb1.size hl' (3 * (k : Int)) (5 * (k : Int)) (by omega) (by omega) 22
        have HU := Lib.hid hu2.byte
        have HK6 := Lib.hid (HK.out.on (hb1.trans hb2))
        clear hu1 hu2 hb1 hb2 HK
        go_wp2_with (first
          | (at_builtin; refine Lib.wpList_append_run _ rfl _ _ 22 22 rfl _ _ rfl rfl _ _ hr1 ?_)
          | (at_builtin; refine Lib.wpList_append_run _ rfl _ _ 22 22 rfl _ _ rfl rfl _ _ hr2 ?_))
        obtain ⟨va, vc, rfl, hBy⟩ := HU.out
        refine (acPoint_any p HF.out.hp va (len' + 2) vc w6 hBy).mono ?_
        rintro e w7 ⟨x, y, z, rfl, hE, hb⟩
        have HE := Lib.hid hE
        have HK7 := Lib.hid (HK6.out.on hb)
        clear hb hE hBy HK6 HU
        obtain ⟨X, hX⟩ : ∃ X, X = w7.heap.size := ⟨_, rfl⟩
        obtain ⟨W8, hW8⟩ : ∃ W, W = w7.alloc (Obj.cells #[.int .i64 x, .int .i64 y, .int .i64 z] 30) := ⟨_, rfl⟩
        have HK8 := Lib.hid (show GK w (.slice (some ⟨gc, oc, none⟩) G.length cc) G [(hv, F)] W8 by rw [hW8]; exact HK7.out.on (Below.alloc (Below.refl _ _) (Nat.le_refl _) _))
        have hp0 : W8.cell? ⟨X, 0, none⟩ = some (.int .i64 x) := by rw [hW8, hX]; simp [go_sem]
        have hp1 : W8.cell? ⟨X, 1, none⟩ = some (.int .i64 y) := by rw [hW8, hX]; simp [go_sem]
        have hp2 : W8.cell? ⟨X, 2, none⟩ = some (.int .i64 z) := by rw [hW8, hX]; simp [go_sem]
        have hXs : X < W8.heap.size := by rw [hW8, hX]; simp
        have HW8 := Lib.hid (And.intro hX hW8)
        clear hX hW8 HK7
        go_upto_region 12 with fail
        rw [← HW8.out.2, ← HW8.out.1]
        clear HW8
        go_wp2_with fail
        refine (iEvalGates p x y z _ G W8 HK8.out.gs).mono ?_
        rintro e w9 ⟨ev, rfl, ho, hb⟩
        have hEv : evV2 p x y z G = evL p x y z G G.length := by unfold evV2; rw [HF.out.hc, HE.out]; rfl
        rw [hEv] at ho
        have hel := evL_len p x y z G G.length
        obtain ⟨_, ea, ec, rfl, hes⟩ := ho.ints
        have HVal := Lib.hid (show evV p x y z F = (evL p x y z G G.length).getD n 0 by rw [HN.out]; exact HF.out.ev x y z HE.out)
        generalize evL p x y z G G.length = E at *
        have hgs : ∃ g off, ea = some ⟨g, off, none⟩ ∧ g < w9.heap.size ∧ w9.cell? ⟨g, off + n, none⟩ = some (.int .i64 (E.getD n 0)) := by
          rcases hes with rfl | ⟨g, off, h1, h2, h3⟩
          · simp at hel; omega
          · exact ⟨g, off, h1, h2, h3 n (by omega)⟩
        obtain ⟨ge, oe, rfl, hge, hcell⟩ := hgs
        have HK9 := Lib.hid (HK8.out.on hb)
        have HC := Lib.hid (fun w' (hw : Below w9.heap.size w9 w') => show w'.cell? ⟨ge, oe + n, none⟩ = some (.int .i64 (E.getD n 0)) from by rw [hw.cell (p := ⟨ge, oe + n, none⟩) hge]; exact hcell)
        have hXs9 : X < w9.heap.size := Nat.lt_of_lt_of_le hXs hb.size
        have HP := Lib.hid (fun w' (hw : Below w9.heap.size w9 w') => show w'.cell? ⟨X, 0, none⟩ = some (.int .i64 x) ∧ w'.cell? ⟨X, 1, none⟩ = some (.int .i64 y) ∧ w'.cell? ⟨X, 2, none⟩ = some (.int .i64 z) from
          ⟨by rw [hw.cell (p := ⟨X, 0, none⟩) hXs9, hb.cell (p := ⟨X, 0, none⟩) hXs]; exact hp0, by rw [hw.cell (p := ⟨X, 1, none⟩) hXs9, hb.cell (p := ⟨X, 1, none⟩) hXs]; exact hp1, by rw [hw.cell (p := ⟨X, 2, none⟩) hXs9, hb.cell (p := ⟨X, 2, none⟩) hXs]; exact hp2⟩)
        have HI := Lib.hid (fun w' (hw : Below w9.heap.size w9 w') => iEvalPoly p x y z hv F w' ((HK9.out.on hw).g (by simp)))
        rw [HVal.out] at HI
        have hlen : (E.length : Int) = (G.length : Int) := by omega
        have hne : ((E.length : Int) != (G.length : Int)) = false := by simp; omega
        have hnE : (n : Int) < (E.length : Int) := by omega
        generalize E.getD n 0 = r at *
        clear ho hb hes hcell hp0 hp1 hp2 HK8 hEv
        go_upto_region 13 with fail
        refine wp_region_below (by kernel_rfl) (by kernel_rfl) ?_
        iterate 4 (with_reducible refine wpQuiet_yes ?_ ?_; (focus (kernel_rfl)); intro K hK; go_simp; refine ⟨_, fun _ _ => rfl, ?_⟩; with_reducible refine hK _ ?_; clear hK K)
        (with_reducible refine wpQuiet_yes ?_ ?_; (focus (kernel_rfl)); intro K hK; go_simp; refine ⟨(.bool false), ?_, ?_⟩; rotate_left; with_reducible refine hK _ ?_; clear hK K; rotate_left)
        · intro w' hw
          simp
        iterate 4 (with_reducible refine wpQuiet_yes ?_ ?_; (focus (kernel_rfl)); intro K hK; go_simp; refine ⟨_, fun _ _ => rfl, ?_⟩; with_reducible refine hK _ ?_; clear hK K)
        (with_reducible refine wpQuiet_yes ?_ ?_; (focus (kernel_rfl)); intro K hK; go_simp; refine ⟨(.int .i64 (n : Int)), ?_, ?_⟩; rotate_left; with_reducible refine hK _ ?_; clear hK K; rotate_left)
        · intro w' hw
          simp only
        (with_reducible refine wpQuiet_yes ?_ ?_; (focus (kernel_rfl)); intro K hK; go_simp; refine ⟨_, fun _ _ => rfl, ?_⟩; with_reducible refine hK _ ?_; clear hK K)
        (with_reducible refine wpQuiet_yes ?_ ?_; (focus (kernel_rfl)); intro K hK; go_simp; refine ⟨(.int .i64 r), ?_, ?_⟩; rotate_left; with_reducible refine hK _ ?_; clear hK K; rotate_left)
        · intro w' hw
          simp only [HC.out w' hw, go_sem, Result.andThen, and_self]
        iterate 2 (with_reducible refine wpQuiet_yes ?_ ?_; (focus (kernel_rfl)); intro K hK; go_simp; refine ⟨_, fun _ _ => rfl, ?_⟩; with_reducible refine hK _ ?_; clear hK K)
        (with_reducible refine wpQuiet_yes ?_ ?_; (focus (kernel_rfl)); intro K hK; go_simp; refine ⟨(.agg #[.int .i64 x, .int .i64 y, .int .i64 z]), ?_, ?_⟩; rotate_left; with_reducible refine hK _ ?_; clear hK K; rotate_left)
        · intro w' hw
          obtain ⟨c0, c1, c2⟩ := HP.out w' hw
          simp only [c0, c1, c2, go_sem, Result.andThen, and_self]
        (with_reducible refine wpQuiet_yes ?_ ?_; (focus (kernel_rfl)); intro K hK; go_simp; refine ⟨(.int .i64 r), ?_, ?_⟩; rotate_left; with_reducible refine hK _ ?_; clear hK K; rotate_left)
        · intro w' hw
          exact (HI.out w' hw).mono fun e w'' ⟨he, h⟩ => ⟨he, hw.trans (h.mono hw.size)⟩
        (with_reducible refine wpQuiet_yes ?_ ?_; (focus (kernel_rfl)); intro K hK; go_simp; refine ⟨(.bool false), ?_, ?_⟩; rotate_left; with_reducible refine hK _ ?_; clear hK K; rotate_left)
        · intro w' hw
          simp
        (with_reducible refine wpQuiet_yes ?_ ?_; (focus (kernel_rfl)); intro K hK; go_simp; refine ⟨_, fun _ _ => rfl, ?_⟩; with_reducible refine hK _ ?_; clear hK K)
        refine wpQuiet_nil fun w2 hb2 => ?_
        have HQ := Lib.hid (HK9.out.on hb2)
        clear hb2
        simp only [Exit.then]
        go_wp2_with fail
        go_roundw
        case rel => exact ⟨k + 1, by omega, by go_num, HQ.out⟩
        case measure => simp [intOf]; omega
      · have hkl : k = 4 := by omega
        subst hkl
        go_wp2_with fail
        refine (iPolyValid p hv F _ (HK.out.g (by simp))).mono ?_
        rw [HF.out.hp, HF.out.vF]
        rintro e w5 ⟨rfl, hb⟩
        have HK5 := Lib.hid (HK.out.on hb)
        clear hb HK
        go_wp2_with fail
        refine (iDegreeOf p hv F w5 (HK5.out.g (by simp))).mono ?_
        rintro e w6 ⟨rfl, hb⟩
        have HK6 := Lib.hid (HK5.out.on hb)
        clear hb HK5
        go_wp2_with fail
        refine (iFormalDegree p _ G w6 HK6.out.gs).mono ?_
        rintro e w7 ⟨rfl, hb⟩
        have HK7 := Lib.hid (HK6.out.on hb)
        clear hb HK6
        have hdg := HF.out.dg
        go_wp2_with fail
        go_ret
        exact ⟨rfl, HK7.out.low⟩
set_option maxHeartbeats 2000000 in
theorem wPolyOfCircuit_long (a : Option Addr) (len cap : Nat) (a' : Option Addr) (len' cap' : Nat) (w : World) (h1 : len ≤ 9223372036854775807) (h2 : len' ≤ 9223372036854775807) (hl : ¬ (len ≤ 1048576 ∧ len' ≤ 1048576)) :
    Calls Try.prog 9 #[.slice a len cap, .slice a' len' cap'] w fun e w' => e = .returned (.bool true) ∧ Below w.heap.size w w' := by
  by_cases h : len ≤ 1048576
  · have hp : (len : Int) ≤ 1048576 := by omega
    have hq : (1048576 : Int) < (len' : Int) := by omega
    go_enter Try.func9, Try.ntmps9
    go_wp2_with fail
    go_ret
    exact ⟨rfl, Below.refl _ _⟩
  · have hp : (1048576 : Int) < (len : Int) := by omega
    go_enter Try.func9, Try.ntmps9
    go_wp2_with fail
    go_ret
    exact ⟨rfl, Below.refl _ _⟩
theorem wPolyOfCircuit (a : Option Addr) (len cap : Nat) (a' : Option Addr) (len' cap' : Nat) (w : World) (h : ByteRow w a len cap) (h' : ByteRow w a' len' cap') :
    Calls Try.prog 9 #[.slice a len cap, .slice a' len' cap'] w fun e w' => e = .returned (.bool true) ∧ Below w.heap.size w w' := by
  by_cases hl : len ≤ 1048576 ∧ len' ≤ 1048576
  · exact wPolyOfCircuit_in a len cap a' len' cap' w h h' hl.1 hl.2
  · exact wPolyOfCircuit_long a len cap a' len' cap' w (Nat.le_trans h.1 h.2.1) (Nat.le_trans h'.1 h'.2.1) hl
end Go.Proofs.Ytegkcfinklcglaa
