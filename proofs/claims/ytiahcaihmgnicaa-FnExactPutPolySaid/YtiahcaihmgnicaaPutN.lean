/-
  Contract of put, where the sum has no term yet, and of put as a whole. Conditions: the terms of the sum are in order.
-/
import Derived.Test.YtiahcaihmgnicaaPutC
import Derived.Deep.RegionWith
namespace Go.Proofs.Ytiahcaihmgnicaa
open Go.RowKit
theorem iSearch_nil (f : Value) (w : World) : Calls Try.prog 118 #[.int .i64 0, f] w fun e w' => e = .returned (.int .i64 0) ∧ w = w' := by
  go_enter Try.func118, Try.ntmps118
  go_wp2_with fail
  go_loop [5, 6] (fun a b => a = .int .i64 0 ∧ b = .int .i64 0) (fun _ _ => 0)
  case atStart => exact ⟨rfl, rfl⟩
  case round =>
    obtain ⟨rfl, rfl⟩ := hrel
    go_wp2_with fail
    go_ret
    exact ⟨rfl, rfl⟩
set_option maxRecDepth 100000 in
set_option maxHeartbeats 32000000 in
theorem iPutNil (B S : Nat) (p : Int) (x : Trm) (w : World) (hS : SumW w S p (.slice none 0 0)) (hB : B ≤ w.heap.size) (hp : isP p = true) (hx : isE p x.t = true) :
    Calls Try.prog 69 #[.pointer (some ⟨S, 0, none⟩), .agg #[.int .i64 x.a, .int .i64 x.b, .int .i64 x.c, .int .i64 x.t]] w (PutTo B S p (.slice none 0 0) (addT p x []) w) := by
  have HSU := Lib.hid hS
  have HP := Lib.hid hp
  have HXE := Lib.hid hx
  obtain ⟨L, hL⟩ : ∃ L : List Trm, L = [] := ⟨_, rfl⟩
  rw [← hL]
  have HL := Lib.hid hL
  have HEL := Lib.hid (show Els p L by rw [hL]; intro y hy; cases hy)
  obtain ⟨K, hKe⟩ : ∃ K, K = plc x L := ⟨_, rfl⟩
  have HKE := Lib.hid hKe
  have hK0' : K = 0 := by rw [hKe, hL]; rfl
  have hl : L.length ≤ 3999 := by rw [hL]; simp
  have HK0 := Lib.hid hK0'
  have HSN := Lib.hid (show ∀ f w, Calls Try.prog 118 #[.int .i64 0, f] w fun e w' => e = .returned (.int .i64 (K : Int)) ∧ w = w' from fun f w => by
    have := iSearch_nil f w
    rw [show (0 : Int) = ((K : Nat) : Int) by omega] at this
    rw [show (0 : Int) = ((K : Nat) : Int) by omega]
    exact this)
  clear hL hKe hK0'
  obtain ⟨s0, s1, sf0, sf1, ssz⟩ := hS
  have hWs : ∀ W, W = (w.alloc (Obj.cells #[.pointer (some ⟨S, 0, none⟩)] 140)).alloc (Obj.cells #[.int .i64 x.a, .int .i64 x.b, .int .i64 x.c, .int .i64 x.t] 68) → Below w.heap.size w W ∧ w.heap.size + 1 < W.heap.size ∧ W.cell? ⟨w.heap.size, 0, none⟩ = some (.pointer (some ⟨S, 0, none⟩)) ∧ TAt W (w.heap.size + 1) 0 x := fun W hW =>
    ⟨by rw [hW]; exact Below.alloc (Below.alloc (Below.refl _ _) (Nat.le_refl _) _) (by simp) _, by rw [hW]; simp, by rw [hW]; simp [go_sem], by rw [hW]; refine ⟨?_, ?_, ?_, ?_⟩ <;> simp [go_sem]⟩
  have HWS := Lib.hid hWs
  clear hp hx hWs
  go_enter Try.func69, Try.ntmps69
  go_upto_region 2 with (go_at_call 118; refine (HSN.out _ _).mono ?_; rintro e w1 ⟨rfl, rfl⟩)
  obtain ⟨W, hW⟩ : ∃ W, W = (w.alloc (Obj.cells #[.pointer (some ⟨S, 0, none⟩)] 140)).alloc (Obj.cells #[.int .i64 x.a, .int .i64 x.b, .int .i64 x.c, .int .i64 x.t] 68) := ⟨_, rfl⟩
  have HWW := Lib.hid (HWS.out W hW)
  rw [← hW]
  clear hW s0 s1 sf0 sf1
  have HF := Lib.hid (show ∀ w', Below W.heap.size W w' → w'.cell? ⟨w.heap.size, 0, none⟩ = some (.pointer (some ⟨S, 0, none⟩)) ∧ w'.cell? ⟨S, 1, none⟩ = some (.slice none 0 0) from fun w' hb => by
    have hb1 := HWW.out.1.size
    have hb2 := HWW.out.2.1
    exact ⟨by rw [hb.cell (p := ⟨w.heap.size, 0, none⟩) (show w.heap.size < W.heap.size by omega)]; exact HWW.out.2.2.1, ((HSU.out.below HWW.out.1).below hb).c1⟩)
  refine wp_region_below (by kernel_rfl) (by kernel_rfl) ?_
  (with_reducible refine wpQuiet_yes ?_ ?_; (focus (kernel_rfl)); intro K hK; go_simp; refine ⟨_, fun _ _ => rfl, ?_⟩; with_reducible refine hK _ ?_; clear hK K)
  (with_reducible refine wpQuiet_yes ?_ ?_; (focus (kernel_rfl)); intro K hK; go_simp; refine ⟨(.pointer (some ⟨S, 0, none⟩)), ?_, ?_⟩; rotate_left; with_reducible refine hK _ ?_; clear hK K; rotate_left)
  · intro w' hw
    simp only [(HF.out w' hw).1, go_sem, Result.andThen, and_self]
  (with_reducible refine wpQuiet_yes ?_ ?_; (focus (kernel_rfl)); intro K hK; go_simp; refine ⟨_, fun _ _ => rfl, ?_⟩; with_reducible refine hK _ ?_; clear hK K)
  (with_reducible refine wpQuiet_yes ?_ ?_; (focus (kernel_rfl)); intro K hK; go_simp; refine ⟨_, fun _ _ => rfl, ?_⟩; with_reducible refine hK _ ?_; clear hK K)
  (with_reducible refine wpQuiet_yes ?_ ?_; (focus (kernel_rfl)); intro K hK; go_simp; refine ⟨(.slice none 0 0), ?_, ?_⟩; rotate_left; with_reducible refine hK _ ?_; clear hK K; rotate_left)
  · intro w' hw
    simp only [(HF.out w' hw).2, go_sem, Result.andThen, and_self]
  (with_reducible refine wpQuiet_yes ?_ ?_; (focus (kernel_rfl)); intro K hK; go_simp; refine ⟨_, fun _ _ => rfl, ?_⟩; with_reducible refine hK _ ?_; clear hK K)
  (with_reducible refine wpQuiet_yes ?_ ?_; (focus (kernel_rfl)); intro K hK; go_simp; refine ⟨(.bool true), ?_, ?_⟩; rotate_left; with_reducible refine hK _ ?_; clear hK K; rotate_left)
  · intro w' hw
    have := HK0.out
    simp
    try omega
  (with_reducible refine wpQuiet_yes ?_ ?_; (focus (kernel_rfl)); intro K hK; go_simp; refine ⟨_, fun _ _ => rfl, ?_⟩; with_reducible refine hK _ ?_; clear hK K)
  iterate 11 (with_reducible refine wpQuiet_no ?_ ?_; (focus (kernel_rfl)); intro K hK; go_simp; with_reducible refine hK _ ?_; clear hK K)
  (with_reducible refine wpQuiet_yes ?_ ?_; (focus (kernel_rfl)); intro K hK; go_simp; refine ⟨_, fun _ _ => rfl, ?_⟩; with_reducible refine hK _ ?_; clear hK K)
  refine wpQuiet_nil fun wc hb2 => ?_
  have hn1' := HWW.out.2.1
  have HB2 := Lib.hid (HWW.out.1.trans (hb2.mono HWW.out.1.size))
  have r0 := (HF.out wc hb2).1
  have r1 := (HF.out wc hb2).2
  have HTB := Lib.hid (HWW.out.2.2.2.below hb2 HWW.out.2.1)
  have n1 : w.heap.size + 1 < wc.heap.size := by have := hb2.size; omega
  clear hb2 HF HWW HWS hn1'
  simp only [Exit.then]
  go_upto_if 32 with fail
  go_cut [] from 32 to 45 (fun w' => MidW B S p (.slice none 0 0) x L w w')
  case first =>
    have hS2 := Lib.hid (HSU.out.below HB2.out)
    have fS := hS2.out.f1
    have S1 := hS2.out.sz
    obtain ⟨t0, t1, t2, t3⟩ := HTB.out
    have n0 : w.heap.size < wc.heap.size := by omega
    have hnS : w.heap.size ≠ S := by omega
    have hnS2 : w.heap.size + 1 ≠ S := by omega
    have hnS3 : S ≠ w.heap.size := by omega
    have hnS4 : S ≠ w.heap.size + 1 := by omega
    have e0 : insT x L = [x.zero] := by unfold insT; rw [HL.out]; simp [hit, plc]
    have HIN := Lib.hid (show ∀ W', Below wc.heap.size wc W' → OneAt W' wc.heap.size x.zero → Calls Try.prog 121 #[.slice none 0 0, .int .i64 K, .slice (some ⟨wc.heap.size, 0, none⟩) 1 1] W' fun e w3 =>
        ∃ g1 cap1, e = .returned (.slice (some ⟨g1, 0, none⟩) 1 cap1) ∧ Row w3 B (.slice (some ⟨g1, 0, none⟩) 1 cap1) [x.zero] ∧ Kept (fun k => Value.ownBlock (.slice none 0 0) = some k) wc w3 ∧ wc.heap.size ≤ g1 ∧
        w3.cell? ⟨w.heap.size, 0, none⟩ = some (.pointer (some ⟨S, 0, none⟩)) ∧ w3.cell? ⟨S, 1, none⟩ = some (.slice none 0 0) ∧ w3.frozen? ⟨S, 1, none⟩ = false ∧ w3.cell? ⟨w.heap.size + 1, 0, none⟩ = some (.int .i64 x.a) ∧ w3.cell? ⟨w.heap.size + 1, 0 + 1, none⟩ = some (.int .i64 x.b) ∧ w3.cell? ⟨w.heap.size + 1, 0 + 2, none⟩ = some (.int .i64 x.c) from by
      intro W' hb ho
      have hsz := hb.size
      rw [show ((K : Nat) : Int) = 0 by have := HK0.out; omega]
      refine (insNil B x.zero wc.heap.size W' (by have := HB2.out.size; omega) ho).mono ?_
      rintro e w3 ⟨v1, rfl, hR3, hG3, hO3⟩
      obtain ⟨g1, cap1, rfl, _⟩ := rowSome hR3 (by simp)
      have hk2 : Kept (fun k => Value.ownBlock (.slice none 0 0) = some k) wc w3 := (Kept.of_below hb).trans (Kept.of_grown hG3 (fun k hk => hk))
      have hno : ∀ k : Nat, ¬ Value.ownBlock (.slice none 0 0) = some k := fun k h => by cases h
      have htk := TAt.kept (x := x) ⟨t0, t1, t2, t3⟩ hk2 n1 (hno _)
      refine ⟨g1, cap1, rfl, hR3, hk2, ?_, ?_, ?_, ?_, htk.1, htk.2.1, htk.2.2.1⟩
      · rcases hO3 with h | ⟨g2, h, h2⟩
        · cases h
        · have : g1 = g2 := by simpa [Value.ownBlock] using h
          omega
      · rw [hk2.cell (p := ⟨w.heap.size, 0, none⟩) n0 (hno _)]; exact r0
      · rw [hk2.cell (p := ⟨S, 1, none⟩) S1 (hno _)]; exact r1
      · rw [World.frozen?_of_block (a := ⟨S, 1, none⟩) (hk2.block S S1 (hno _))]; exact fS)
    have HMID := Lib.hid (show ∀ g1 cap1 w3, Row w3 B (.slice (some ⟨g1, 0, none⟩) 1 cap1) [x.zero] → Kept (fun k => Value.ownBlock (.slice none 0 0) = some k) wc w3 → wc.heap.size ≤ g1 →
        MidW B S p (.slice none 0 0) x L w (w3.setCell ⟨S, 1, none⟩ (.slice (some ⟨g1, 0, none⟩) 1 cap1)) from fun g1 cap1 w3 hR3 hk hg =>
      MidW.of_ins hS2.out r0 HTB.out n1 HB2.out (by simp [Value.ownBlock]) (fun k h => by cases h) ssz (by rw [e0]; rfl) (by rw [e0]; exact hR3) hk (.inr hg))
    have hfa : ∀ o, (wc.alloc o).frozen? ⟨S, 1, none⟩ = false := fun o => by
      rw [World.frozen?_of_block (w := wc) (a := ⟨S, 1, none⟩) (heap_alloc_old wc o S1)]; exact fS
    have hfb : ∀ o, (wc.alloc o).drew.frozen? ⟨S, 1, none⟩ = false := hfa
    clear e0
    go_wp2_with fail
    have hsK : ∀ o, ((wc.alloc o).drew.cell? ⟨w.heap.size, 0, none⟩ = some (.pointer (some ⟨S, 0, none⟩)) ∧ (wc.alloc o).drew.cell? ⟨S, 1, none⟩ = some (.slice none 0 0) ∧ (wc.alloc o).drew.cell? ⟨w.heap.size + 1, 0, none⟩ = some (.int .i64 x.a) ∧ (wc.alloc o).drew.cell? ⟨w.heap.size + 1, 0 + 1, none⟩ = some (.int .i64 x.b) ∧ (wc.alloc o).drew.cell? ⟨w.heap.size + 1, 0 + 2, none⟩ = some (.int .i64 x.c)) := fun o =>
      ⟨show (wc.alloc o).cell? ⟨w.heap.size, 0, none⟩ = _ by rw [World.cell?_alloc_past _ _ _ (show w.heap.size < wc.heap.size by omega)]; exact r0,
       show (wc.alloc o).cell? ⟨S, 1, none⟩ = _ by rw [World.cell?_alloc_past _ _ _ (show S < wc.heap.size by omega)]; exact r1,
       show (wc.alloc o).cell? ⟨w.heap.size + 1, 0, none⟩ = _ by rw [World.cell?_alloc_past _ _ _ (show w.heap.size + 1 < wc.heap.size by omega)]; exact t0,
       show (wc.alloc o).cell? ⟨w.heap.size + 1, 0 + 1, none⟩ = _ by rw [World.cell?_alloc_past _ _ _ (show w.heap.size + 1 < wc.heap.size by omega)]; exact t1,
       show (wc.alloc o).cell? ⟨w.heap.size + 1, 0 + 2, none⟩ = _ by rw [World.cell?_alloc_past _ _ _ (show w.heap.size + 1 < wc.heap.size by omega)]; exact t2⟩
    have HSK := Lib.hid hsK
    clear hsK
    refine wp_region_seq [(0, true), (1, true), (2, true), (3, true), (4, true), (5, true), (6, true), (7, true), (8, true), (9, false), (10, false), (11, true), (12, true)] (fun w' => w'.cell? ⟨w.heap.size, 0, none⟩ = some (.pointer (some ⟨S, 0, none⟩)) ∧ w'.cell? ⟨S, 1, none⟩ = some (.slice none 0 0) ∧ w'.cell? ⟨w.heap.size + 1, 0, none⟩ = some (.int .i64 x.a) ∧ w'.cell? ⟨w.heap.size + 1, 0 + 1, none⟩ = some (.int .i64 x.b) ∧ w'.cell? ⟨w.heap.size + 1, 0 + 2, none⟩ = some (.int .i64 x.c)) (by kernel_rfl) (by kernel_rfl) rfl (by intro c a d v w h; cases d <;> exact h) ⟨r0, r1, t0, t1, t2⟩ ?_
    iterate 9 (refine wpSeq_take (v := ?_) (List.getElem?_toArray.trans rfl) ?_ ?_; rotate_left; (intro w' hSw; (try dsimp only at hSw); go_simp; (try with_reducible rfl)); (try simp only [Act.put, List.setIfInBounds_toArray, List.set_cons_zero, List.set_cons_succ]))
    refine wpSeq_do (List.getElem?_toArray.trans rfl) (fun K hK => ?_)
    go_simp
    refine hK _ _ (HSK.out _) ?_
    clear hK K
    refine wpSeq_do (List.getElem?_toArray.trans rfl) (fun K hK => ?_)
    go_simp
    refine (HIN.out _ (by repeat (first | exact Below.refl _ _ | apply Below.drew | apply below_drewN | (refine Below.alloc ?_ (by first | omega | (simp; omega)) _))) (show OneAt ((wc.alloc (Obj.cells #[.int .i64 x.a, .int .i64 x.b, .int .i64 x.c, .int .i64 0] 68)).drew) wc.heap.size x.zero from heap_alloc_new wc _)).mono ?_
    rintro e w3 ⟨g1, cap1, rfl, hR3, hG3, hO3, k0, k1, k2, k3, k4, k5⟩
    refine hK _ _ ⟨k0, k1, k3, k4, k5⟩ ?_
    clear hK K
    iterate 2 (refine wpSeq_take (v := ?_) (List.getElem?_toArray.trans rfl) ?_ ?_; rotate_left; (intro w' hSw; (try dsimp only at hSw); go_simp; (try with_reducible rfl)); (try simp only [Act.put, List.setIfInBounds_toArray, List.set_cons_zero, List.set_cons_succ]))
    refine wpSeq_nil ?_
    simp only [Exit.then]
    go_wp2_with fail
    go_meet
    case rel => exact HMID.out _ _ _ hR3 hG3 hO3
  case rest =>
    clear HB2 r0 r1 HTB n1
    obtain ⟨g1, cap1, hS1, hR1, hbp, hbt, hsz, hkept, hn1, hn2, hn3, hor⟩ := hcut
    have hKM : K < (insT x L).length := by rw [HKE.out]; exact insT_len.2
    have hM : (insT x L).length ≤ 4000 := by have := (insT_len (x := x) (L := L)).1; omega
    have hat : (insT x L).getD K default = ⟨x.a, x.b, x.c, insV x L⟩ := by rw [HKE.out]; exact insT_at
    have HSET := Lib.hid (fun h => (by rw [HKE.out]; exact addT_set HEL.out (isE_iff.1 HXE.out) h : (insT x L).set K ⟨x.a, x.b, x.c, (insV x L + x.t) % p⟩ = addT p x L))
    have HDEL := Lib.hid (fun h => (by rw [HKE.out]; exact addT_del HEL.out (isE_iff.1 HXE.out) h : (insT x L).take K ++ (insT x L).drop (K + 1) = addT p x L))
    have HADD := Lib.hid (addV_is HP.out (insV_el (x := x) (L := L) HP.out HEL.out) HXE.out)
    obtain ⟨L1, hL1⟩ : ∃ L1, L1 = insT x L := ⟨_, rfl⟩
    obtain ⟨t0, ht0⟩ : ∃ t0, t0 = insV x L := ⟨_, rfl⟩
    rw [← hL1, ← ht0] at HSET
    rw [← hL1, ← ht0] at HDEL
    rw [← ht0] at HADD
    rw [← hL1] at hS1 hR1 hKM hM hat
    rw [← ht0] at hat
    clear hL1 ht0
    have hKp : (K : Int) < (L1.length : Int) := by omega
    have hK0 : (0 : Int) ≤ (K : Int) := by omega
    have hg1w : g1 < wc.heap.size := (World.ownsRow.lt hR1 g1 rfl).2
    have HS1 := Lib.hid hS1
    have HR1 := Lib.hid hR1
    have HKP := Lib.hid hkept
    have HF := Lib.hid (show ∀ w', Below wc.heap.size wc w' → (w'.cell? ⟨w.heap.size, 0, none⟩ = some (.pointer (some ⟨S, 0, none⟩)) ∧ w'.cell? ⟨S, 0, none⟩ = some (.int .i64 p) ∧ w'.cell? ⟨S, 1, none⟩ = some (.slice (some ⟨g1, 0, none⟩) L1.length cap1)) ∧ TAt w' g1 (K * 4) ⟨x.a, x.b, x.c, t0⟩ ∧ TAt w' (w.heap.size + 1) 0 x from fun w' hb =>
      ⟨⟨by rw [hb.cell (p := ⟨w.heap.size, 0, none⟩) (show w.heap.size < wc.heap.size by omega)]; exact hbp, (HS1.out.below hb).c0, (HS1.out.below hb).c1⟩, by rw [← hat]; exact (HR1.out.below hb).tat rfl hKM, hbt.below hb hsz⟩)
    clear hS1 hR1 hkept hbp hbt
    go_upto_region 4 with fail
    refine wp_region_below (by kernel_rfl) (by kernel_rfl) ?_
    (with_reducible refine wpQuiet_yes ?_ ?_; (focus (kernel_rfl)); intro K hK; go_simp; refine ⟨(.pointer (some ⟨S, 0, none⟩)), ?_, ?_⟩; rotate_left; with_reducible refine hK _ ?_; clear hK K; rotate_left)
    · intro w' hw
      simp only [(HF.out w' hw).1.1, go_sem, Result.andThen, and_self]
    (with_reducible refine wpQuiet_yes ?_ ?_; (focus (kernel_rfl)); intro K hK; go_simp; refine ⟨_, fun _ _ => rfl, ?_⟩; with_reducible refine hK _ ?_; clear hK K)
    (with_reducible refine wpQuiet_yes ?_ ?_; (focus (kernel_rfl)); intro K hK; go_simp; refine ⟨_, fun _ _ => rfl, ?_⟩; with_reducible refine hK _ ?_; clear hK K)
    (with_reducible refine wpQuiet_yes ?_ ?_; (focus (kernel_rfl)); intro K hK; go_simp; refine ⟨(.int .i64 p), ?_, ?_⟩; rotate_left; with_reducible refine hK _ ?_; clear hK K; rotate_left)
    · intro w' hw
      simp only [(HF.out w' hw).1.2.1, go_sem, Result.andThen, and_self]
    (with_reducible refine wpQuiet_yes ?_ ?_; (focus (kernel_rfl)); intro K hK; go_simp; refine ⟨(.pointer (some ⟨S, 0, none⟩)), ?_, ?_⟩; rotate_left; with_reducible refine hK _ ?_; clear hK K; rotate_left)
    · intro w' hw
      simp only [(HF.out w' hw).1.1, go_sem, Result.andThen, and_self]
    (with_reducible refine wpQuiet_yes ?_ ?_; (focus (kernel_rfl)); intro K hK; go_simp; refine ⟨_, fun _ _ => rfl, ?_⟩; with_reducible refine hK _ ?_; clear hK K)
    (with_reducible refine wpQuiet_yes ?_ ?_; (focus (kernel_rfl)); intro K hK; go_simp; refine ⟨_, fun _ _ => rfl, ?_⟩; with_reducible refine hK _ ?_; clear hK K)
    (with_reducible refine wpQuiet_yes ?_ ?_; (focus (kernel_rfl)); intro K hK; go_simp; refine ⟨(.slice (some ⟨g1, 0, none⟩) L1.length cap1), ?_, ?_⟩; rotate_left; with_reducible refine hK _ ?_; clear hK K; rotate_left)
    · intro w' hw
      simp only [(HF.out w' hw).1.2.2, go_sem, Result.andThen, and_self]
    (with_reducible refine wpQuiet_yes ?_ ?_; (focus (kernel_rfl)); intro K hK; go_simp; refine ⟨_, fun _ _ => rfl, ?_⟩; with_reducible refine hK _ ?_; clear hK K)
    (with_reducible refine wpQuiet_yes ?_ ?_; (focus (kernel_rfl)); intro K hK; go_simp; refine ⟨_, fun _ _ => rfl, ?_⟩; with_reducible refine hK _ ?_; clear hK K)
    (with_reducible refine wpQuiet_yes ?_ ?_; (focus (kernel_rfl)); intro K hK; go_simp; refine ⟨_, fun _ _ => rfl, ?_⟩; with_reducible refine hK _ ?_; clear hK K)
    (with_reducible refine wpQuiet_yes ?_ ?_; (focus (kernel_rfl)); intro K hK; go_simp; refine ⟨(.int .i64 t0), ?_, ?_⟩; rotate_left; with_reducible refine hK _ ?_; clear hK K; rotate_left)
    · intro w' hw
      simp only [(HF.out w' hw).2.1.2.2.2, go_sem, Result.andThen, and_self]
    (with_reducible refine wpQuiet_yes ?_ ?_; (focus (kernel_rfl)); intro K hK; go_simp; refine ⟨_, fun _ _ => rfl, ?_⟩; with_reducible refine hK _ ?_; clear hK K)
    (with_reducible refine wpQuiet_yes ?_ ?_; (focus (kernel_rfl)); intro K hK; go_simp; refine ⟨(.int .i64 x.t), ?_, ?_⟩; rotate_left; with_reducible refine hK _ ?_; clear hK K; rotate_left)
    · intro w' hw
      obtain ⟨c0, c1, c2, c3⟩ := (HF.out w' hw).2.2
      simp only [Nat.zero_add] at c3
      simp only [c3, go_sem, Result.andThen, and_self]
    (with_reducible refine wpQuiet_yes ?_ ?_; (focus (kernel_rfl)); intro K hK; go_simp; refine ⟨(.int .i64 (addV p t0 x.t)), ?_, ?_⟩; rotate_left; with_reducible refine hK _ ?_; clear hK K; rotate_left)
    · intro w' hw
      exact (iAdd p t0 x.t _).mono fun e w'' ⟨he, h⟩ => ⟨he, hw.trans (h.mono hw.size)⟩
    (with_reducible refine wpQuiet_yes ?_ ?_; (focus (kernel_rfl)); intro K hK; go_simp; refine ⟨_, fun _ _ => rfl, ?_⟩; with_reducible refine hK _ ?_; clear hK K)
    refine wpQuiet_nil fun w4 hb4 => ?_
    rw [HADD.out]
    obtain ⟨sm, hsm⟩ : ∃ sm, sm = (t0 + x.t) % p := ⟨_, rfl⟩
    rw [← hsm] at HSET HDEL ⊢
    clear hsm
    obtain ⟨⟨e0, e1, e2⟩, ⟨f0, f1, f2, f3⟩, _⟩ := HF.out w4 hb4
    have hS4 := HS1.out.below hb4
    have hR4 := HR1.out.below hb4
    have hfz := World.ownsRow.frozenAt hR4 (K * 4 + 3)
    have HK4 := Lib.hid ((HKP.out).trans (Kept.of_below hb4))
    have h4s := hb4.size
    have HR5 := Lib.hid (Row.setT hR4 hKM hat sm)
    have HS5 := Lib.hid (show SumW (w4.setCell ⟨g1, K * 4 + 3, none⟩ (.int .i64 sm)) S p (.slice (some ⟨g1, 0, none⟩) L1.length cap1) from by
      refine ⟨?_, ?_, ?_, ?_, by simpa using hS4.sz⟩
      · rw [World.cell?_setCell_other _ _ _ _ (by simp <;> omega)]; exact hS4.c0
      · rw [World.cell?_setCell_other _ _ _ _ (by simp <;> omega)]; exact hS4.c1
      · rw [World.frozen?_setCell]; exact hS4.f0
      · rw [World.frozen?_setCell]; exact hS4.f1)
    have HK5 := Lib.hid (show Kept (fun k => k = S ∨ Value.ownBlock (.slice none 0 0) = some k) w (w4.setCell ⟨g1, K * 4 + 3, none⟩ (.int .i64 sm)) from HK4.out.set (hor.elim (fun h => .inl (.inr h)) .inr) _)
    have hp5 : (w4.setCell ⟨g1, K * 4 + 3, none⟩ (.int .i64 sm)).cell? ⟨w.heap.size, 0, none⟩ = some (.pointer (some ⟨S, 0, none⟩)) := by rw [World.cell?_setCell_other _ _ _ _ (by simp <;> omega)]; exact e0
    clear hS4 hR4 hb4 hat
    simp only [Exit.then]
    go_upto_if 70 with fail
    obtain ⟨W5, hW5⟩ : ∃ W5, W5 = w4.setCell ⟨g1, K * 4 + 3, none⟩ (.int .i64 sm) := ⟨_, rfl⟩
    rw [← hW5] at HR5
    rw [← hW5] at HS5
    rw [← hW5] at HK5
    rw [← hW5] at hp5
    rw [← hW5]
    clear hW5 e0 e1 e2 f0 f1 f2 f3
    by_cases hz : sm = 0
    · have HZ := Lib.hid hz
      have s1 := HS5.out.c1
      have sf := HS5.out.f1
      have sw := HS5.out.sz
      have hDL := Lib.hid (show ∀ n, Calls Try.prog 123 #[.slice (some ⟨g1, 0, none⟩) L1.length cap1, .int .i64 K, .int .i64 ((K : Int) + 1)] (W5.drewN n) fun e w' =>
          e = .returned (.slice (some ⟨g1, 0, none⟩) (L1.length - 1) cap1) ∧ Row w' B (.slice (some ⟨g1, 0, none⟩) (L1.length - 1) cap1) (addT p x L) ∧ (W5.drewN n).grownBy w' (some g1) ∧ w'.cell? ⟨w.heap.size, 0, none⟩ = some (.pointer (some ⟨S, 0, none⟩)) ∧ w'.cell? ⟨S, 1, none⟩ = some (.slice (some ⟨g1, 0, none⟩) L1.length cap1) ∧ w'.frozen? ⟨S, 1, none⟩ = false from fun n => by
        have hl1 : (L1.set K ⟨x.a, x.b, x.c, sm⟩).length = L1.length := List.length_set
        have hr : Row (W5.drewN n) B (.slice (some ⟨g1, 0, none⟩) (L1.set K ⟨x.a, x.b, x.c, sm⟩).length cap1) (L1.set K ⟨x.a, x.b, x.c, sm⟩) := by
          rw [hl1]; exact HR5.out.below (below_drewN (Below.refl _ _) n)
        have := iDelete B g1 cap1 K (L1.set K ⟨x.a, x.b, x.c, sm⟩) (W5.drewN n) (by omega) (by omega) hr
        rw [hl1, take_set_same, drop_set_same, HDEL.out HZ.out] at this
        refine this.mono fun e w' ⟨h1, h2, h3⟩ => ⟨h1, h2, h3, ?_, ?_, ?_⟩
        · have hb5 : w.heap.size < W5.heap.size := World.block_lt_of_cell? W5 _ hp5
          rw [World.cell?_of_block (a := ⟨w.heap.size, 0, none⟩) (h3.block w.heap.size hb5 (by simp; omega))]; exact hp5
        · rw [World.cell?_of_block (a := ⟨S, 1, none⟩) (h3.block S sw (by simp; omega))]; exact s1
        · rw [World.frozen?_of_block (a := ⟨S, 1, none⟩) (h3.block S sw (by simp; omega))]; exact sf)
      have hw1 : IntKind.i64.wrap ((K : Int) + 1) = (K : Int) + 1 := by rw [IntKind.wrap_i64]; omega
      subst hz
      go_upto_region 7 with fail
      have hnS : w.heap.size ≠ S := by omega
      have hnS3 : S ≠ w.heap.size := by omega
      go_region_with
        (first
          | (go_at_call 123; refine (hDL.out 1).mono ?_; rintro e w6 ⟨rfl, hR6, hG6, k0, k1, k2⟩))
      all_goals
        go_wp2_with fail
        refine bodyPost_ret (v := .tuple #[]) (by simp [results, Try.results69, go_sem]) rfl ⟨rfl, .slice (some ⟨g1, 0, none⟩) (L1.length - 1) cap1, ?_, ?_, ?_, ?_, ?_⟩
        · have hh := hG6.block S sw (by simp; omega)
          exact SumW.set (v := .slice (some ⟨g1, 0, none⟩) L1.length cap1) ⟨by rw [World.cell?_of_block (a := ⟨S, 0, none⟩) hh]; exact HS5.out.c0, k1, by rw [World.frozen?_of_block (a := ⟨S, 0, none⟩) hh]; exact HS5.out.f0, k2, by have := hG6.size; simp at this; omega⟩ _
        · exact hR6.kept (Kept.set (K := fun k => k = S) (Kept.refl _ _) (p := ⟨S, 1, none⟩) (.inl rfl) _) hn1
        · simp [Value.ownBlock]; exact hn1
        · have q : Kept (fun k => k = S ∨ Value.ownBlock (.slice none 0 0) = some k) w w6 := Kept.grown_on (w := W5.drewN 1) ⟨HK5.out.os, HK5.out.tape, HK5.out.output, HK5.out.size, HK5.out.block⟩ hG6 (fun k hk hn e => by rcases hor with h | h; exact hn (.inr (by rw [h, e])); omega)
          exact q.set (.inl (.inl rfl)) _
        · exact hor.elim (fun h => .inl (by rw [h]; rfl)) (fun h => .inr ⟨g1, rfl, h⟩)
    · go_wp2_with fail
      have e := HSET.out hz
      refine bodyPost_ret (v := .tuple #[]) (by simp [results, Try.results69, go_sem]) rfl ⟨rfl, .slice (some ⟨g1, 0, none⟩) L1.length cap1, HS5.out, ?_, ?_, HK5.out, ?_⟩
      · have h5 := HR5.out
        rw [e] at h5
        have hl1 : (L1.set K ⟨x.a, x.b, x.c, sm⟩).length = L1.length := List.length_set
        rw [e] at hl1
        rw [← hl1] at h5 ⊢
        exact h5
      · simp [Value.ownBlock]; exact hn1
      · exact hor.elim (fun h => .inl (by rw [h]; rfl)) (fun h => .inr ⟨g1, rfl, h⟩)
/-- put: a term is added to the sum -/
theorem iPut (B S : Nat) (p : Int) (v : Value) (L : List Trm) (x : Trm) (w : World) (hS : SumW w S p v) (hR : Row w B v L) (hB : B ≤ w.heap.size) (hp : isP p = true)
    (hs : Srt L) (he : Els p L) (hx : isE p x.t = true) (hl : L.length ≤ 3999) (hvS : v.ownBlock ≠ some S) :
    Calls Try.prog 69 #[.pointer (some ⟨S, 0, none⟩), .agg #[.int .i64 x.a, .int .i64 x.b, .int .i64 x.c, .int .i64 x.t]] w (PutTo B S p v (addT p x L) w) := by
  rcases hR.shape with ⟨rfl, rfl⟩ | ⟨g, cap, rfl, _⟩
  · exact iPutNil B S p x w hS hB hp hx
  · exact iPutSome B S g cap p L x w hS hR hB hp hs he hx hl (fun e => hvS (by rw [e]; rfl))
end Go.Proofs.Ytiahcaihmgnicaa
