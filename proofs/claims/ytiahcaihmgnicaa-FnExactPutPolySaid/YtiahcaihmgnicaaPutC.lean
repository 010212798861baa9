/-
  Contract of put, where the sum has terms already. Conditions: the terms of the sum are in order.
-/
import Derived.Test.YtiahcaihmgnicaaPutM
import Derived.Test.YtiahcaihmgnicaaSeq
import Derived.Deep.RegionWith
namespace Go.Proofs.Ytiahcaihmgnicaa
open Go.RowKit
theorem getD_set_flat {L : List Trm} {k : Nat} (hk : k < L.length) (x : Trm) : L.take k ++ x :: L.drop (k + 1) = L.set k x := by
  rw [List.set_eq_take_append_cons_drop, if_pos hk]
theorem Kept.grown_on {K : Nat → Prop} {a w w' : World} {g1 : Nat} (h : Kept K a w) (hg : w.grownBy w' (some g1)) (hn : ∀ k, k < a.heap.size → ¬ K k → k ≠ g1) : Kept K a w' :=
  ⟨hg.os.trans h.os, hg.tape.trans h.tape, hg.output.trans h.output, Nat.le_trans h.size hg.size, fun k hk hk2 => (hg.block k (Nat.lt_of_lt_of_le hk h.size) (by simpa using hn k hk hk2)).trans (h.block k hk hk2)⟩
set_option maxRecDepth 100000 in
set_option maxHeartbeats 32000000 in
theorem iPutSome (B S g cap : Nat) (p : Int) (L : List Trm) (x : Trm) (w : World) (hS : SumW w S p (.slice (some ⟨g, 0, none⟩) L.length cap)) (hR : Row w B (.slice (some ⟨g, 0, none⟩) L.length cap) L) (hB : B ≤ w.heap.size) (hp : isP p = true)
    (hs : Srt L) (he : Els p L) (hx : isE p x.t = true) (hl : L.length ≤ 3999) (hgS : g ≠ S) :
    Calls Try.prog 69 #[.pointer (some ⟨S, 0, none⟩), .agg #[.int .i64 x.a, .int .i64 x.b, .int .i64 x.c, .int .i64 x.t]] w (PutTo B S p (.slice (some ⟨g, 0, none⟩) L.length cap) (addT p x L) w) := by
  have HSU := Lib.hid hS
  have HRO := Lib.hid hR
  have HP := Lib.hid hp
  have HSR := Lib.hid hs
  have HEL := Lib.hid he
  have HXE := Lib.hid hx
  obtain ⟨s0, s1, sf0, sf1, ssz⟩ := hS
  have hgw : g < w.heap.size := (World.ownsRow.lt hR g rfl).2
  have hbW : ∀ W, W = (w.alloc (Obj.cells #[.pointer (some ⟨S, 0, none⟩)] 140)).alloc (Obj.cells #[.int .i64 x.a, .int .i64 x.b, .int .i64 x.c, .int .i64 x.t] 68) → Below w.heap.size w W ∧ PutW W w.heap.size S g cap L x := fun W hW => by
    have hb : Below w.heap.size w W := by rw [hW]; exact Below.alloc (Below.alloc (Below.refl _ _) (Nat.le_refl _) _) (by simp) _
    exact ⟨hb, by rw [hW]; simp [go_sem], by rw [hW]; refine ⟨?_, ?_, ?_, ?_⟩ <;> simp [go_sem], (HSU.out.below hb).c1, fun j hj => (HRO.out.below hb).tat rfl hj, by rw [hW]; simp, by have := hb.size; omega, by have := hb.size; omega⟩
  have HSE := Lib.hid (show ∀ W, W = (w.alloc (Obj.cells #[.pointer (some ⟨S, 0, none⟩)] 140)).alloc (Obj.cells #[.int .i64 x.a, .int .i64 x.b, .int .i64 x.c, .int .i64 x.t] 68) →
      Calls Try.prog 118 #[.int .i64 L.length, .func (.func 119) #[] #[.pointer (some ⟨w.heap.size, 0, none⟩), .pointer (some ⟨w.heap.size + 1, 0, none⟩)]] W fun e w' => e = .returned (.int .i64 (plc x L : Nat)) ∧ Below w.heap.size w w' ∧ PutW w' w.heap.size S g cap L x from fun W hW =>
    (iSearch w.heap.size S g cap L x W (by omega) HSR.out (hbW W hW).2).mono fun e w' h => ⟨h.1, (hbW W hW).1.trans (h.2.mono (hbW W hW).1.size), (hbW W hW).2.below h.2⟩)
  obtain ⟨K, hKe⟩ : ∃ K, K = plc x L := ⟨_, rfl⟩
  have HKE := Lib.hid hKe
  rw [← hKe] at HSE
  have hKl : K ≤ L.length := by rw [hKe]; exact plc_le x L
  clear hR hp hs he hx hbW hKe
  go_enter Try.func69, Try.ntmps69
  go_upto_region 2 with (go_at_call 118; refine (HSE.out _ rfl).mono ?_; rintro e w1 ⟨rfl, hb1, hpw1⟩)
  have HB1 := Lib.hid hb1
  have HPW1 := Lib.hid hpw1
  clear hb1 hpw1 s0 s1 sf0 sf1
  have HF := Lib.hid (show ∀ w', Below w1.heap.size w1 w' → (w'.cell? ⟨w.heap.size, 0, none⟩ = some (.pointer (some ⟨S, 0, none⟩)) ∧ w'.cell? ⟨S, 1, none⟩ = some (.slice (some ⟨g, 0, none⟩) L.length cap)) ∧ TAt w' (w.heap.size + 1) 0 x from
    fun w' hb => by
      have q := HPW1.out.below hb
      exact ⟨⟨q.bs, q.sv⟩, q.bt⟩)
  go_cut [32] from 13 to 31 (fun s w' => s = .bool (!hit x L) ∧ Below w1.heap.size w1 w')
  case first =>
    as_aux_lemma =>
      by_cases hKL : K = L.length
      · have HLE := Lib.hid hKL
        have hh : hit x L = false := by unfold hit; rw [← HKE.out]; simp [hKL]
        have HH := Lib.hid hh
        clear hKL hh
        refine wp_region_below (by kernel_rfl) (by kernel_rfl) ?_
        (with_reducible refine wpQuiet_yes ?_ ?_; (focus (kernel_rfl)); intro K hK; go_simp; refine ⟨_, fun _ _ => rfl, ?_⟩; with_reducible refine hK _ ?_; clear hK K)
        (with_reducible refine wpQuiet_yes ?_ ?_; (focus (kernel_rfl)); intro K hK; go_simp; refine ⟨(.pointer (some ⟨S, 0, none⟩)), ?_, ?_⟩; rotate_left; with_reducible refine hK _ ?_; clear hK K; rotate_left)
        · intro w' hw
          simp only [(HF.out w' hw).1.1, go_sem, Result.andThen, and_self]
        (with_reducible refine wpQuiet_yes ?_ ?_; (focus (kernel_rfl)); intro K hK; go_simp; refine ⟨_, fun _ _ => rfl, ?_⟩; with_reducible refine hK _ ?_; clear hK K)
        (with_reducible refine wpQuiet_yes ?_ ?_; (focus (kernel_rfl)); intro K hK; go_simp; refine ⟨_, fun _ _ => rfl, ?_⟩; with_reducible refine hK _ ?_; clear hK K)
        (with_reducible refine wpQuiet_yes ?_ ?_; (focus (kernel_rfl)); intro K hK; go_simp; refine ⟨(.slice (some ⟨g, 0, none⟩) L.length cap), ?_, ?_⟩; rotate_left; with_reducible refine hK _ ?_; clear hK K; rotate_left)
        · intro w' hw
          simp only [(HF.out w' hw).1.2, go_sem, Result.andThen, and_self]
        (with_reducible refine wpQuiet_yes ?_ ?_; (focus (kernel_rfl)); intro K hK; go_simp; refine ⟨_, fun _ _ => rfl, ?_⟩; with_reducible refine hK _ ?_; clear hK K)
        (with_reducible refine wpQuiet_yes ?_ ?_; (focus (kernel_rfl)); intro K hK; go_simp; refine ⟨(.bool true), ?_, ?_⟩; rotate_left; with_reducible refine hK _ ?_; clear hK K; rotate_left)
        · intro w' hw
          have := HLE.out
          simp
          try omega
        (with_reducible refine wpQuiet_yes ?_ ?_; (focus (kernel_rfl)); intro K hK; go_simp; refine ⟨_, fun _ _ => rfl, ?_⟩; with_reducible refine hK _ ?_; clear hK K)
        iterate 11 (with_reducible refine wpQuiet_no ?_ ?_; (focus (kernel_rfl)); intro K hK; go_simp; with_reducible refine hK _ ?_; clear hK K)
        (with_reducible refine wpQuiet_yes ?_ ?_; (focus (kernel_rfl)); intro K hK; go_simp; refine ⟨_, fun _ _ => rfl, ?_⟩; with_reducible refine hK _ ?_; clear hK K)
        refine wpQuiet_nil fun w2 hb2 => ?_
        have HB2 := Lib.hid hb2
        clear hb2
        simp only [Exit.then]
        go_wp2_with fail
        go_meet
        case rel => exact ⟨by rw [HH.out]; rfl, HB2.out⟩
      · have hKlt : K < L.length := by omega
        have hKp : (K : Int) < (L.length : Int) := by omega
        have hK0 : (0 : Int) ≤ (K : Int) := by omega
        have HLE := Lib.hid hKL
        obtain ⟨y, hy⟩ : ∃ y, y = L.getD K default := ⟨_, rfl⟩
        have HG := Lib.hid (show ∀ w', Below w1.heap.size w1 w' → TAt w' g (K * 4) y from fun w' hb => by rw [hy]; exact (HPW1.out.below hb).row K hKlt)
        have HHY := Lib.hid (show hit x L = samB y x by unfold hit; rw [← HKE.out, ← hy]; simp [hKlt])
        clear hy hKL hKlt
        rcases Bool.eq_false_or_eq_true (samB y x) with hsy | hsy
        · have HQ := Lib.hid (show (y.a == x.a && y.b == x.b && y.c == x.c) = true from hsy)
          clear hsy
          refine wp_region_below (by kernel_rfl) (by kernel_rfl) ?_
          (with_reducible refine wpQuiet_yes ?_ ?_; (focus (kernel_rfl)); intro K hK; go_simp; refine ⟨_, fun _ _ => rfl, ?_⟩; with_reducible refine hK _ ?_; clear hK K)
          (with_reducible refine wpQuiet_yes ?_ ?_; (focus (kernel_rfl)); intro K hK; go_simp; refine ⟨(.pointer (some ⟨S, 0, none⟩)), ?_, ?_⟩; rotate_left; with_reducible refine hK _ ?_; clear hK K; rotate_left)
          · intro w' hw
            simp only [(HF.out w' hw).1.1, go_sem, Result.andThen, and_self]
          (with_reducible refine wpQuiet_yes ?_ ?_; (focus (kernel_rfl)); intro K hK; go_simp; refine ⟨_, fun _ _ => rfl, ?_⟩; with_reducible refine hK _ ?_; clear hK K)
          (with_reducible refine wpQuiet_yes ?_ ?_; (focus (kernel_rfl)); intro K hK; go_simp; refine ⟨_, fun _ _ => rfl, ?_⟩; with_reducible refine hK _ ?_; clear hK K)
          (with_reducible refine wpQuiet_yes ?_ ?_; (focus (kernel_rfl)); intro K hK; go_simp; refine ⟨(.slice (some ⟨g, 0, none⟩) L.length cap), ?_, ?_⟩; rotate_left; with_reducible refine hK _ ?_; clear hK K; rotate_left)
          · intro w' hw
            simp only [(HF.out w' hw).1.2, go_sem, Result.andThen, and_self]
          (with_reducible refine wpQuiet_yes ?_ ?_; (focus (kernel_rfl)); intro K hK; go_simp; refine ⟨_, fun _ _ => rfl, ?_⟩; with_reducible refine hK _ ?_; clear hK K)
          (with_reducible refine wpQuiet_yes ?_ ?_; (focus (kernel_rfl)); intro K hK; go_simp; refine ⟨(.bool false), ?_, ?_⟩; rotate_left; with_reducible refine hK _ ?_; clear hK K; rotate_left)
          · intro w' hw
            have := HLE.out
            simp
            try omega
          (with_reducible refine wpQuiet_yes ?_ ?_; (focus (kernel_rfl)); intro K hK; go_simp; refine ⟨_, fun _ _ => rfl, ?_⟩; with_reducible refine hK _ ?_; clear hK K)
          (with_reducible refine wpQuiet_yes ?_ ?_; (focus (kernel_rfl)); intro K hK; go_simp; refine ⟨(.pointer (some ⟨S, 0, none⟩)), ?_, ?_⟩; rotate_left; with_reducible refine hK _ ?_; clear hK K; rotate_left)
          · intro w' hw
            simp only [(HF.out w' hw).1.1, go_sem, Result.andThen, and_self]
          (with_reducible refine wpQuiet_yes ?_ ?_; (focus (kernel_rfl)); intro K hK; go_simp; refine ⟨_, fun _ _ => rfl, ?_⟩; with_reducible refine hK _ ?_; clear hK K)
          (with_reducible refine wpQuiet_yes ?_ ?_; (focus (kernel_rfl)); intro K hK; go_simp; refine ⟨_, fun _ _ => rfl, ?_⟩; with_reducible refine hK _ ?_; clear hK K)
          (with_reducible refine wpQuiet_yes ?_ ?_; (focus (kernel_rfl)); intro K hK; go_simp; refine ⟨(.slice (some ⟨g, 0, none⟩) L.length cap), ?_, ?_⟩; rotate_left; with_reducible refine hK _ ?_; clear hK K; rotate_left)
          · intro w' hw
            simp only [(HF.out w' hw).1.2, go_sem, Result.andThen, and_self]
          (with_reducible refine wpQuiet_yes ?_ ?_; (focus (kernel_rfl)); intro K hK; go_simp; refine ⟨_, fun _ _ => rfl, ?_⟩; with_reducible refine hK _ ?_; clear hK K)
          (with_reducible refine wpQuiet_yes ?_ ?_; (focus (kernel_rfl)); intro K hK; go_simp; refine ⟨_, fun _ _ => rfl, ?_⟩; with_reducible refine hK _ ?_; clear hK K)
          (with_reducible refine wpQuiet_yes ?_ ?_; (focus (kernel_rfl)); intro K hK; go_simp; refine ⟨_, fun _ _ => rfl, ?_⟩; with_reducible refine hK _ ?_; clear hK K)
          (with_reducible refine wpQuiet_yes ?_ ?_; (focus (kernel_rfl)); intro K hK; go_simp; refine ⟨(.agg #[.int .i64 y.a, .int .i64 y.b, .int .i64 y.c]), ?_, ?_⟩; rotate_left; with_reducible refine hK _ ?_; clear hK K; rotate_left)
          · intro w' hw
            obtain ⟨c0, c1, c2, c3⟩ := HG.out w' hw
            simp only [c0, c1, c2, go_sem, Result.andThen, and_self]
          (with_reducible refine wpQuiet_yes ?_ ?_; (focus (kernel_rfl)); intro K hK; go_simp; refine ⟨_, fun _ _ => rfl, ?_⟩; with_reducible refine hK _ ?_; clear hK K)
          (with_reducible refine wpQuiet_yes ?_ ?_; (focus (kernel_rfl)); intro K hK; go_simp; refine ⟨(.agg #[.int .i64 x.a, .int .i64 x.b, .int .i64 x.c]), ?_, ?_⟩; rotate_left; with_reducible refine hK _ ?_; clear hK K; rotate_left)
          · intro w' hw
            obtain ⟨c0, c1, c2, c3⟩ := (HF.out w' hw).2
            simp only [c0, c1, c2, go_sem, Result.andThen, and_self]
          (with_reducible refine wpQuiet_yes ?_ ?_; (focus (kernel_rfl)); intro K hK; go_simp; refine ⟨(.bool false), ?_, ?_⟩; rotate_left; with_reducible refine hK _ ?_; clear hK K; rotate_left)
          · intro w' hw
            have hq := runEqA_is true _ _ _ _ _ _ HQ.out w'
            simp only [hq, go_sem, Result.andThen, Bool.not_true, and_self]
          (with_reducible refine wpQuiet_yes ?_ ?_; (focus (kernel_rfl)); intro K hK; go_simp; refine ⟨_, fun _ _ => rfl, ?_⟩; with_reducible refine hK _ ?_; clear hK K)
          refine wpQuiet_nil fun w2 hb2 => ?_
          have HB2 := Lib.hid hb2
          clear hb2
          simp only [Exit.then]
          go_wp2_with fail
          go_meet
          case rel => exact ⟨by rw [HHY.out, show samB y x = true from HQ.out]; rfl, HB2.out⟩
        · have HQ := Lib.hid (show (y.a == x.a && y.b == x.b && y.c == x.c) = false from hsy)
          clear hsy
          refine wp_region_below (by kernel_rfl) (by kernel_rfl) ?_
          (with_reducible refine wpQuiet_yes ?_ ?_; (focus (kernel_rfl)); intro K hK; go_simp; refine ⟨_, fun _ _ => rfl, ?_⟩; with_reducible refine hK _ ?_; clear hK K)
          (with_reducible refine wpQuiet_yes ?_ ?_; (focus (kernel_rfl)); intro K hK; go_simp; refine ⟨(.pointer (some ⟨S, 0, none⟩)), ?_, ?_⟩; rotate_left; with_reducible refine hK _ ?_; clear hK K; rotate_left)
          · intro w' hw
            simp only [(HF.out w' hw).1.1, go_sem, Result.andThen, and_self]
          (with_reducible refine wpQuiet_yes ?_ ?_; (focus (kernel_rfl)); intro K hK; go_simp; refine ⟨_, fun _ _ => rfl, ?_⟩; with_reducible refine hK _ ?_; clear hK K)
          (with_reducible refine wpQuiet_yes ?_ ?_; (focus (kernel_rfl)); intro K hK; go_simp; refine ⟨_, fun _ _ => rfl, ?_⟩; with_reducible refine hK _ ?_; clear hK K)
          (with_reducible refine wpQuiet_yes ?_ ?_; (focus (kernel_rfl)); intro K hK; go_simp; refine ⟨(.slice (some ⟨g, 0, none⟩) L.length cap), ?_, ?_⟩; rotate_left; with_reducible refine hK _ ?_; clear hK K; rotate_left)
          · intro w' hw
            simp only [(HF.out w' hw).1.2, go_sem, Result.andThen, and_self]
          (with_reducible refine wpQuiet_yes ?_ ?_; (focus (kernel_rfl)); intro K hK; go_simp; refine ⟨_, fun _ _ => rfl, ?_⟩; with_reducible refine hK _ ?_; clear hK K)
          (with_reducible refine wpQuiet_yes ?_ ?_; (focus (kernel_rfl)); intro K hK; go_simp; refine ⟨(.bool false), ?_, ?_⟩; rotate_left; with_reducible refine hK _ ?_; clear hK K; rotate_left)
          · intro w' hw
            have := HLE.out
            simp
            try omega
          (with_reducible refine wpQuiet_yes ?_ ?_; (focus (kernel_rfl)); intro K hK; go_simp; refine ⟨_, fun _ _ => rfl, ?_⟩; with_reducible refine hK _ ?_; clear hK K)
          (with_reducible refine wpQuiet_yes ?_ ?_; (focus (kernel_rfl)); intro K hK; go_simp; refine ⟨(.pointer (some ⟨S, 0, none⟩)), ?_, ?_⟩; rotate_left; with_reducible refine hK _ ?_; clear hK K; rotate_left)
          · intro w' hw
            simp only [(HF.out w' hw).1.1, go_sem, Result.andThen, and_self]
          (with_reducible refine wpQuiet_yes ?_ ?_; (focus (kernel_rfl)); intro K hK; go_simp; refine ⟨_, fun _ _ => rfl, ?_⟩; with_reducible refine hK _ ?_; clear hK K)
          (with_reducible refine wpQuiet_yes ?_ ?_; (focus (kernel_rfl)); intro K hK; go_simp; refine ⟨_, fun _ _ => rfl, ?_⟩; with_reducible refine hK _ ?_; clear hK K)
          (with_reducible refine wpQuiet_yes ?_ ?_; (focus (kernel_rfl)); intro K hK; go_simp; refine ⟨(.slice (some ⟨g, 0, none⟩) L.length cap), ?_, ?_⟩; rotate_left; with_reducible refine hK _ ?_; clear hK K; rotate_left)
          · intro w' hw
            simp only [(HF.out w' hw).1.2, go_sem, Result.andThen, and_self]
          (with_reducible refine wpQuiet_yes ?_ ?_; (focus (kernel_rfl)); intro K hK; go_simp; refine ⟨_, fun _ _ => rfl, ?_⟩; with_reducible refine hK _ ?_; clear hK K)
          (with_reducible refine wpQuiet_yes ?_ ?_; (focus (kernel_rfl)); intro K hK; go_simp; refine ⟨_, fun _ _ => rfl, ?_⟩; with_reducible refine hK _ ?_; clear hK K)
          (with_reducible refine wpQuiet_yes ?_ ?_; (focus (kernel_rfl)); intro K hK; go_simp; refine ⟨_, fun _ _ => rfl, ?_⟩; with_reducible refine hK _ ?_; clear hK K)
          (with_reducible refine wpQuiet_yes ?_ ?_; (focus (kernel_rfl)); intro K hK; go_simp; refine ⟨(.agg #[.int .i64 y.a, .int .i64 y.b, .int .i64 y.c]), ?_, ?_⟩; rotate_left; with_reducible refine hK _ ?_; clear hK K; rotate_left)
          · intro w' hw
            obtain ⟨c0, c1, c2, c3⟩ := HG.out w' hw
            simp only [c0, c1, c2, go_sem, Result.andThen, and_self]
          (with_reducible refine wpQuiet_yes ?_ ?_; (focus (kernel_rfl)); intro K hK; go_simp; refine ⟨_, fun _ _ => rfl, ?_⟩; with_reducible refine hK _ ?_; clear hK K)
          (with_reducible refine wpQuiet_yes ?_ ?_; (focus (kernel_rfl)); intro K hK; go_simp; refine ⟨(.agg #[.int .i64 x.a, .int .i64 x.b, .int .i64 x.c]), ?_, ?_⟩; rotate_left; with_reducible refine hK _ ?_; clear hK K; rotate_left)
          · intro w' hw
            obtain ⟨c0, c1, c2, c3⟩ := (HF.out w' hw).2
            simp only [c0, c1, c2, go_sem, Result.andThen, and_self]
          (with_reducible refine wpQuiet_yes ?_ ?_; (focus (kernel_rfl)); intro K hK; go_simp; refine ⟨(.bool true), ?_, ?_⟩; rotate_left; with_reducible refine hK _ ?_; clear hK K; rotate_left)
          · intro w' hw
            have hq := runEqA_is false _ _ _ _ _ _ HQ.out w'
            simp only [hq, go_sem, Result.andThen, Bool.not_false, and_self]
          (with_reducible refine wpQuiet_yes ?_ ?_; (focus (kernel_rfl)); intro K hK; go_simp; refine ⟨_, fun _ _ => rfl, ?_⟩; with_reducible refine hK _ ?_; clear hK K)
          refine wpQuiet_nil fun w2 hb2 => ?_
          have HB2 := Lib.hid hb2
          clear hb2
          simp only [Exit.then]
          go_wp2_with fail
          go_meet
          case rel => exact ⟨by rw [HHY.out, show samB y x = false from HQ.out]; rfl, HB2.out⟩
  case rest =>
    as_aux_lemma =>
      obtain ⟨rfl, hb2⟩ := hcut
      have HB2 := Lib.hid (HB1.out.trans (hb2.mono HB1.out.size))
      have HPW2 := Lib.hid (HPW1.out.below hb2)
      clear hb2 HF HB1 HPW1
      go_upto_if 32 with fail
      go_cut [] from 32 to 45 (fun w' => MidW B S p (.slice (some ⟨g, 0, none⟩) L.length cap) x L w w')
      case first =>
        as_aux_lemma =>
          rcases Bool.eq_false_or_eq_true (hit x L) with hh | hh
          · have HH := Lib.hid hh
            rw [hh]
            clear hh
            go_wp2_with fail
            go_meet
            case rel =>
              have e : insT x L = L := by unfold insT; rw [if_pos HH.out]
              have hS2 := HSU.out.below HB2.out
              have hR2 := HRO.out.below HB2.out
              have hn1 := HPW2.out.n1
              exact ⟨g, cap, by rw [e]; exact hS2, by rw [e]; exact hR2, HPW2.out.bs, HPW2.out.bt, hn1, Kept.of_below HB2.out, hgS, by omega, by omega, .inl rfl⟩
          · have HH := Lib.hid hh
            rw [hh]
            clear hh
            go_wp2_with fail
            have hS2 := Lib.hid (HSU.out.below HB2.out)
            have hR2 := Lib.hid (HRO.out.below HB2.out)
            obtain ⟨r0, ⟨t0, t1, t2, t3⟩, r1, _, n1, S1, g1⟩ := HPW2.out
            have fS := hS2.out.f1
            have hne0 : w.heap.size ≠ g := by omega
            have n0 : w.heap.size < wc.heap.size := by omega
            have hnS : w.heap.size ≠ S := by omega
            have hnS2 : w.heap.size + 1 ≠ S := by omega
            have hnS3 : S ≠ w.heap.size := by omega
            have hnS4 : S ≠ w.heap.size + 1 := by omega
            have n0a : ∀ o, (wc.drew.alloc o).cell? ⟨w.heap.size, 0, none⟩ = some (.pointer (some ⟨S, 0, none⟩)) := fun o => by
              rw [World.cell?_of_block (w := wc) (a := ⟨w.heap.size, 0, none⟩) (heap_alloc_old wc.drew o n0)]; exact r0
            have n0b : ∀ o, (wc.alloc o).cell? ⟨w.heap.size, 0, none⟩ = some (.pointer (some ⟨S, 0, none⟩)) := fun o => by
              rw [World.cell?_of_block (w := wc) (a := ⟨w.heap.size, 0, none⟩) (heap_alloc_old wc o n0)]; exact r0
            have HIN := Lib.hid (show ∀ W', Below wc.heap.size wc W' → OneAt W' wc.heap.size x.zero → Calls Try.prog 121 #[.slice (some ⟨g, 0, none⟩) L.length cap, .int .i64 K, .slice (some ⟨wc.heap.size, 0, none⟩) 1 1] W' fun e w3 =>
                ∃ g1 cap1, e = .returned (.slice (some ⟨g1, 0, none⟩) (L.length + 1) cap1) ∧ Row w3 B (.slice (some ⟨g1, 0, none⟩) (L.length + 1) cap1) (L.take K ++ x.zero :: L.drop K) ∧ Kept (fun k => Value.ownBlock (.slice (some ⟨g, 0, none⟩) L.length cap) = some k) wc w3 ∧ (Value.ownBlock (.slice (some ⟨g, 0, none⟩) L.length cap) = some g1 ∨ wc.heap.size ≤ g1) ∧
                w3.cell? ⟨w.heap.size, 0, none⟩ = some (.pointer (some ⟨S, 0, none⟩)) ∧ w3.cell? ⟨S, 1, none⟩ = some (.slice (some ⟨g, 0, none⟩) L.length cap) ∧ w3.frozen? ⟨S, 1, none⟩ = false ∧ w3.cell? ⟨w.heap.size + 1, 0, none⟩ = some (.int .i64 x.a) ∧ w3.cell? ⟨w.heap.size + 1, 0 + 1, none⟩ = some (.int .i64 x.b) ∧ w3.cell? ⟨w.heap.size + 1, 0 + 2, none⟩ = some (.int .i64 x.c) from by
              intro W' hb ho
              have hsz := hb.size
              have hlt : wc.heap.size < W'.heap.size := (Array.getElem?_eq_some_iff.1 ho).1
              refine (iInsert B K (.slice (some ⟨g, 0, none⟩) L.length cap) L x.zero wc.heap.size W' (by omega) (by omega) (by omega) (hR2.out.below hb) ho (by simp [Value.ownBlock]; omega)).mono ?_
              rintro e w3 ⟨v1, rfl, hR3, hG3, hO3⟩
              have hln : (L.take K ++ x.zero :: L.drop K).length = L.length + 1 := by simp; omega
              obtain ⟨g1, cap1, rfl, _⟩ := rowSome hR3 (by omega)
              rw [hln] at hR3 hO3 ⊢
              have hk : Kept (fun k => Value.ownBlock (.slice (some ⟨g, 0, none⟩) L.length cap) = some k) W' w3 := Kept.of_grown hG3 (fun k hk => hk)
              have hk2 : Kept (fun k => Value.ownBlock (.slice (some ⟨g, 0, none⟩) L.length cap) = some k) wc w3 := (Kept.of_below hb).trans hk
              have hnt : ¬ Value.ownBlock (.slice (some ⟨g, 0, none⟩) L.length cap) = some (w.heap.size + 1) := by simp [Value.ownBlock]; omega
              have htk := TAt.kept (x := x) ⟨t0, t1, t2, t3⟩ hk2 n1 hnt
              refine ⟨g1, cap1, rfl, hR3, hk2, ?_, ?_, ?_, ?_, htk.1, htk.2.1, htk.2.2.1⟩
              · rcases hO3 with h | ⟨g2, h, h2⟩
                · left; exact h.symm
                · right
                  have : g1 = g2 := by simpa [Value.ownBlock] using h
                  omega
              · rw [hk2.cell (p := ⟨w.heap.size, 0, none⟩) (show w.heap.size < wc.heap.size by omega) (by simp [Value.ownBlock]; omega)]; exact r0
              · rw [hk2.cell (p := ⟨S, 1, none⟩) S1 (by simp [Value.ownBlock]; exact hgS)]; exact r1
              · rw [World.frozen?_of_block (a := ⟨S, 1, none⟩) (hk2.block S S1 (by simp [Value.ownBlock]; exact hgS))]; exact fS)
            have HMID := Lib.hid (show ∀ g1 cap1 w3, Row w3 B (.slice (some ⟨g1, 0, none⟩) (L.length + 1) cap1) (L.take K ++ x.zero :: L.drop K) → Kept (fun k => Value.ownBlock (.slice (some ⟨g, 0, none⟩) L.length cap) = some k) wc w3 → (Value.ownBlock (.slice (some ⟨g, 0, none⟩) L.length cap) = some g1 ∨ wc.heap.size ≤ g1) →
                MidW B S p (.slice (some ⟨g, 0, none⟩) L.length cap) x L w (w3.setCell ⟨S, 1, none⟩ (.slice (some ⟨g1, 0, none⟩) (L.length + 1) cap1)) from fun g1 cap1 w3 hR3 hk hg => by
              have e : insT x L = L.take K ++ x.zero :: L.drop K := by unfold insT; rw [if_neg (by rw [HH.out]; simp), ← HKE.out]
              exact MidW.of_ins hS2.out HPW2.out.bs HPW2.out.bt n1 HB2.out (by simp [Value.ownBlock]; exact hgS) (fun k h => by have e : g = k := by { simpa [Value.ownBlock] using h }; omega) ssz (by rw [e]; simp; omega) (by rw [e]; exact hR3) hk hg)
            have hsK : ∀ o, ((wc.alloc o).drew.cell? ⟨w.heap.size, 0, none⟩ = some (.pointer (some ⟨S, 0, none⟩)) ∧ (wc.alloc o).drew.cell? ⟨S, 1, none⟩ = some (.slice (some ⟨g, 0, none⟩) L.length cap) ∧ (wc.alloc o).drew.cell? ⟨w.heap.size + 1, 0, none⟩ = some (.int .i64 x.a) ∧ (wc.alloc o).drew.cell? ⟨w.heap.size + 1, 0 + 1, none⟩ = some (.int .i64 x.b) ∧ (wc.alloc o).drew.cell? ⟨w.heap.size + 1, 0 + 2, none⟩ = some (.int .i64 x.c)) := fun o =>
              ⟨show (wc.alloc o).cell? ⟨w.heap.size, 0, none⟩ = _ by rw [World.cell?_alloc_past _ _ _ (show w.heap.size < wc.heap.size by omega)]; exact r0,
               show (wc.alloc o).cell? ⟨S, 1, none⟩ = _ by rw [World.cell?_alloc_past _ _ _ (show S < wc.heap.size by omega)]; exact r1,
               show (wc.alloc o).cell? ⟨w.heap.size + 1, 0, none⟩ = _ by rw [World.cell?_alloc_past _ _ _ (show w.heap.size + 1 < wc.heap.size by omega)]; exact t0,
               show (wc.alloc o).cell? ⟨w.heap.size + 1, 0 + 1, none⟩ = _ by rw [World.cell?_alloc_past _ _ _ (show w.heap.size + 1 < wc.heap.size by omega)]; exact t1,
               show (wc.alloc o).cell? ⟨w.heap.size + 1, 0 + 2, none⟩ = _ by rw [World.cell?_alloc_past _ _ _ (show w.heap.size + 1 < wc.heap.size by omega)]; exact t2⟩
            have HSK := Lib.hid hsK
            clear hsK
            refine wp_region_seq [(0, true), (1, true), (2, true), (3, true), (4, true), (5, true), (6, true), (7, true), (8, true), (9, false), (10, false), (11, true), (12, true)] (fun w' => w'.cell? ⟨w.heap.size, 0, none⟩ = some (.pointer (some ⟨S, 0, none⟩)) ∧ w'.cell? ⟨S, 1, none⟩ = some (.slice (some ⟨g, 0, none⟩) L.length cap) ∧ w'.cell? ⟨w.heap.size + 1, 0, none⟩ = some (.int .i64 x.a) ∧ w'.cell? ⟨w.heap.size + 1, 0 + 1, none⟩ = some (.int .i64 x.b) ∧ w'.cell? ⟨w.heap.size + 1, 0 + 2, none⟩ = some (.int .i64 x.c)) (by kernel_rfl) (by kernel_rfl) rfl (by intro c a d v w h; cases d <;> exact h) ⟨r0, r1, t0, t1, t2⟩ ?_
            iterate 9 (refine wpSeq_take (v := ?_) (List.getElem?_toArray.trans rfl) ?_ ?_; rotate_left; (intro w' hSw; (try dsimp only at hSw); go_simp; (try with_reducible rfl)); (try simp only [Act.put, List.setIfInBounds_toArray, List.set_cons_zero, List.set_cons_succ]))
            refine wpSeq_do (List.getElem?_toArray.trans rfl) (fun K hK => ?_)
            go_simp
            refine hK _ _ (HSK.out _) ?_
            clear hK K
            refine wpSeq_do (List.getElem?_toArray.trans rfl) (fun K hK => ?_)
            go_simp
            refine (HIN.out _ (by repeat (first | exact Below.refl _ _ | apply Below.drew | apply below_drewN | (refine Below.alloc ?_ (by first | omega | (simp; omega)) _))) (show OneAt ((wc.alloc (Obj.cells #[.int .i64 x.a, .int .i64 x.b, .int .i64 x.c, .int .i64 0] 68)).drew) wc.heap.size x.zero from heap_alloc_new wc _)).mono ?_
            rintro e w3 ⟨g1, cap1, rfl, hR3, hG3, hO3, k0, k1, k2, k3, k4, k5⟩
            refine hK _ _ ⟨k0, k1, k3, k4, k5⟩ ?_
            clear hK K
            iterate 2 (refine wpSeq_take (v := ?_) (List.getElem?_toArray.trans rfl) ?_ ?_; rotate_left; (intro w' hSw; (try dsimp only at hSw); go_simp; (try with_reducible rfl)); (try simp only [Act.put, List.setIfInBounds_toArray, List.set_cons_zero, List.set_cons_succ]))
            refine wpSeq_nil ?_
            simp only [Exit.then]
            go_wp2_with fail
            go_meet
            case rel => exact HMID.out _ _ _ hR3 hG3 hO3
      case rest =>
        as_aux_lemma =>
          clear HB2 HPW2
          obtain ⟨g1, cap1, hS1, hR1, hbp, hbt, hsz, hkept, hn1, hn2, hn3, hor⟩ := hcut
          have hKM : K < (insT x L).length := by rw [HKE.out]; exact insT_len.2
          have hM : (insT x L).length ≤ 4000 := by have := (insT_len (x := x) (L := L)).1; omega
          have hat : (insT x L).getD K default = ⟨x.a, x.b, x.c, insV x L⟩ := by rw [HKE.out]; exact insT_at
          have HSET := Lib.hid (fun h => (by rw [HKE.out]; exact addT_set HEL.out (isE_iff.1 HXE.out) h : (insT x L).set K ⟨x.a, x.b, x.c, (insV x L + x.t) % p⟩ = addT p x L))
          have HDEL := Lib.hid (fun h => (by rw [HKE.out]; exact addT_del HEL.out (isE_iff.1 HXE.out) h : (insT x L).take K ++ (insT x L).drop (K + 1) = addT p x L))
          have HADD := Lib.hid (addV_is HP.out (insV_el (x := x) (L := L) HP.out HEL.out) HXE.out)
          obtain ⟨L1, hL1⟩ : ∃ L1, L1 = insT x L := ⟨_, rfl⟩
          obtain ⟨t0, ht0⟩ : ∃ t0, t0 = insV x L := ⟨_, rfl⟩
          rw [← hL1, ← ht0] at HSET
          rw [← hL1, ← ht0] at HDEL
          rw [← ht0] at HADD
          rw [← hL1] at hS1 hR1 hKM hM hat
          rw [← ht0] at hat
          clear hL1 ht0
          have hKp : (K : Int) < (L1.length : Int) := by omega
          have hK0 : (0 : Int) ≤ (K : Int) := by omega
          have hg1w : g1 < wc.heap.size := (World.ownsRow.lt hR1 g1 rfl).2
          have HS1 := Lib.hid hS1
          have HR1 := Lib.hid hR1
          have HKP := Lib.hid hkept
          have HF := Lib.hid (show ∀ w', Below wc.heap.size wc w' → (w'.cell? ⟨w.heap.size, 0, none⟩ = some (.pointer (some ⟨S, 0, none⟩)) ∧ w'.cell? ⟨S, 0, none⟩ = some (.int .i64 p) ∧ w'.cell? ⟨S, 1, none⟩ = some (.slice (some ⟨g1, 0, none⟩) L1.length cap1)) ∧ TAt w' g1 (K * 4) ⟨x.a, x.b, x.c, t0⟩ ∧ TAt w' (w.heap.size + 1) 0 x from fun w' hb =>
            ⟨⟨by rw [hb.cell (p := ⟨w.heap.size, 0, none⟩) (show w.heap.size < wc.heap.size by omega)]; exact hbp, (HS1.out.below hb).c0, (HS1.out.below hb).c1⟩, by rw [← hat]; exact (HR1.out.below hb).tat rfl hKM, hbt.below hb hsz⟩)
          clear hS1 hR1 hkept hbp hbt
          go_upto_region 4 with fail
          refine wp_region_below (by kernel_rfl) (by kernel_rfl) ?_
          (with_reducible refine wpQuiet_yes ?_ ?_; (focus (kernel_rfl)); intro K hK; go_simp; refine ⟨(.pointer (some ⟨S, 0, none⟩)), ?_, ?_⟩; rotate_left; with_reducible refine hK _ ?_; clear hK K; rotate_left)
          · intro w' hw
            simp only [(HF.out w' hw).1.1, go_sem, Result.andThen, and_self]
          (with_reducible refine wpQuiet_yes ?_ ?_; (focus (kernel_rfl)); intro K hK; go_simp; refine ⟨_, fun _ _ => rfl, ?_⟩; with_reducible refine hK _ ?_; clear hK K)
          (with_reducible refine wpQuiet_yes ?_ ?_; (focus (kernel_rfl)); intro K hK; go_simp; refine ⟨_, fun _ _ => rfl, ?_⟩; with_reducible refine hK _ ?_; clear hK K)
          (with_reducible refine wpQuiet_yes ?_ ?_; (focus (kernel_rfl)); intro K hK; go_simp; refine ⟨(.int .i64 p), ?_, ?_⟩; rotate_left; with_reducible refine hK _ ?_; clear hK K; rotate_left)
          · intro w' hw
            simp only [(HF.out w' hw).1.2.1, go_sem, Result.andThen, and_self]
          (with_reducible refine wpQuiet_yes ?_ ?_; (focus (kernel_rfl)); intro K hK; go_simp; refine ⟨(.pointer (some ⟨S, 0, none⟩)), ?_, ?_⟩; rotate_left; with_reducible refine hK _ ?_; clear hK K; rotate_left)
          · intro w' hw
            simp only [(HF.out w' hw).1.1, go_sem, Result.andThen, and_self]
          (with_reducible refine wpQuiet_yes ?_ ?_; (focus (kernel_rfl)); intro K hK; go_simp; refine ⟨_, fun _ _ => rfl, ?_⟩; with_reducible refine hK _ ?_; clear hK K)
          (with_reducible refine wpQuiet_yes ?_ ?_; (focus (kernel_rfl)); intro K hK; go_simp; refine ⟨_, fun _ _ => rfl, ?_⟩; with_reducible refine hK _ ?_; clear hK K)
          (with_reducible refine wpQuiet_yes ?_ ?_; (focus (kernel_rfl)); intro K hK; go_simp; refine ⟨(.slice (some ⟨g1, 0, none⟩) L1.length cap1), ?_, ?_⟩; rotate_left; with_reducible refine hK _ ?_; clear hK K; rotate_left)
          · intro w' hw
            simp only [(HF.out w' hw).1.2.2, go_sem, Result.andThen, and_self]
          (with_reducible refine wpQuiet_yes ?_ ?_; (focus (kernel_rfl)); intro K hK; go_simp; refine ⟨_, fun _ _ => rfl, ?_⟩; with_reducible refine hK _ ?_; clear hK K)
          (with_reducible refine wpQuiet_yes ?_ ?_; (focus (kernel_rfl)); intro K hK; go_simp; refine ⟨_, fun _ _ => rfl, ?_⟩; with_reducible refine hK _ ?_; clear hK K)
          (with_reducible refine wpQuiet_yes ?_ ?_; (focus (kernel_rfl)); intro K hK; go_simp; refine ⟨_, fun _ _ => rfl, ?_⟩; with_reducible refine hK _ ?_; clear hK K)
          (with_reducible refine wpQuiet_yes ?_ ?_; (focus (kernel_rfl)); intro K hK; go_simp; refine ⟨(.int .i64 t0), ?_, ?_⟩; rotate_left; with_reducible refine hK _ ?_; clear hK K; rotate_left)
          · intro w' hw
            simp only [(HF.out w' hw).2.1.2.2.2, go_sem, Result.andThen, and_self]
          (with_reducible refine wpQuiet_yes ?_ ?_; (focus (kernel_rfl)); intro K hK; go_simp; refine ⟨_, fun _ _ => rfl, ?_⟩; with_reducible refine hK _ ?_; clear hK K)
          (with_reducible refine wpQuiet_yes ?_ ?_; (focus (kernel_rfl)); intro K hK; go_simp; refine ⟨(.int .i64 x.t), ?_, ?_⟩; rotate_left; with_reducible refine hK _ ?_; clear hK K; rotate_left)
          · intro w' hw
            obtain ⟨c0, c1, c2, c3⟩ := (HF.out w' hw).2.2
            simp only [Nat.zero_add] at c3
            simp only [c3, go_sem, Result.andThen, and_self]
          (with_reducible refine wpQuiet_yes ?_ ?_; (focus (kernel_rfl)); intro K hK; go_simp; refine ⟨(.int .i64 (addV p t0 x.t)), ?_, ?_⟩; rotate_left; with_reducible refine hK _ ?_; clear hK K; rotate_left)
          · intro w' hw
            exact (iAdd p t0 x.t _).mono fun e w'' ⟨he, h⟩ => ⟨he, hw.trans (h.mono hw.size)⟩
          (with_reducible refine wpQuiet_yes ?_ ?_; (focus (kernel_rfl)); intro K hK; go_simp; refine ⟨_, fun _ _ => rfl, ?_⟩; with_reducible refine hK _ ?_; clear hK K)
          refine wpQuiet_nil fun w4 hb4 => ?_
          rw [HADD.out]
          obtain ⟨sm, hsm⟩ : ∃ sm, sm = (t0 + x.t) % p := ⟨_, rfl⟩
          rw [← hsm] at HSET HDEL ⊢
          clear hsm
          obtain ⟨⟨e0, e1, e2⟩, ⟨f0, f1, f2, f3⟩, _⟩ := HF.out w4 hb4
          have hS4 := HS1.out.below hb4
          have hR4 := HR1.out.below hb4
          have hfz := World.ownsRow.frozenAt hR4 (K * 4 + 3)
          have HK4 := Lib.hid ((HKP.out).trans (Kept.of_below hb4))
          have h4s := hb4.size
          have HR5 := Lib.hid (Row.setT hR4 hKM hat sm)
          have HS5 := Lib.hid (show SumW (w4.setCell ⟨g1, K * 4 + 3, none⟩ (.int .i64 sm)) S p (.slice (some ⟨g1, 0, none⟩) L1.length cap1) from by
            refine ⟨?_, ?_, ?_, ?_, by simpa using hS4.sz⟩
            · rw [World.cell?_setCell_other _ _ _ _ (by simp <;> omega)]; exact hS4.c0
            · rw [World.cell?_setCell_other _ _ _ _ (by simp <;> omega)]; exact hS4.c1
            · rw [World.frozen?_setCell]; exact hS4.f0
            · rw [World.frozen?_setCell]; exact hS4.f1)
          have HK5 := Lib.hid (show Kept (fun k => k = S ∨ Value.ownBlock (.slice (some ⟨g, 0, none⟩) L.length cap) = some k) w (w4.setCell ⟨g1, K * 4 + 3, none⟩ (.int .i64 sm)) from HK4.out.set (hor.elim (fun h => .inl (.inr h)) .inr) _)
          have hp5 : (w4.setCell ⟨g1, K * 4 + 3, none⟩ (.int .i64 sm)).cell? ⟨w.heap.size, 0, none⟩ = some (.pointer (some ⟨S, 0, none⟩)) := by rw [World.cell?_setCell_other _ _ _ _ (by simp <;> omega)]; exact e0
          clear hS4 hR4 hb4 hat
          simp only [Exit.then]
          go_upto_if 70 with fail
          obtain ⟨W5, hW5⟩ : ∃ W5, W5 = w4.setCell ⟨g1, K * 4 + 3, none⟩ (.int .i64 sm) := ⟨_, rfl⟩
          rw [← hW5] at HR5
          rw [← hW5] at HS5
          rw [← hW5] at HK5
          rw [← hW5] at hp5
          rw [← hW5]
          clear hW5 e0 e1 e2 f0 f1 f2 f3
          by_cases hz : sm = 0
          · have HZ := Lib.hid hz
            have s1 := HS5.out.c1
            have sf := HS5.out.f1
            have sw := HS5.out.sz
            have hDL := Lib.hid (show ∀ n, Calls Try.prog 123 #[.slice (some ⟨g1, 0, none⟩) L1.length cap1, .int .i64 K, .int .i64 ((K : Int) + 1)] (W5.drewN n) fun e w' =>
                e = .returned (.slice (some ⟨g1, 0, none⟩) (L1.length - 1) cap1) ∧ Row w' B (.slice (some ⟨g1, 0, none⟩) (L1.length - 1) cap1) (addT p x L) ∧ (W5.drewN n).grownBy w' (some g1) ∧ w'.cell? ⟨w.heap.size, 0, none⟩ = some (.pointer (some ⟨S, 0, none⟩)) ∧ w'.cell? ⟨S, 1, none⟩ = some (.slice (some ⟨g1, 0, none⟩) L1.length cap1) ∧ w'.frozen? ⟨S, 1, none⟩ = false from fun n => by
              have hl1 : (L1.set K ⟨x.a, x.b, x.c, sm⟩).length = L1.length := List.length_set
              have hr : Row (W5.drewN n) B (.slice (some ⟨g1, 0, none⟩) (L1.set K ⟨x.a, x.b, x.c, sm⟩).length cap1) (L1.set K ⟨x.a, x.b, x.c, sm⟩) := by
                rw [hl1]; exact HR5.out.below (below_drewN (Below.refl _ _) n)
              have := iDelete B g1 cap1 K (L1.set K ⟨x.a, x.b, x.c, sm⟩) (W5.drewN n) (by omega) (by omega) hr
              rw [hl1, take_set_same, drop_set_same, HDEL.out HZ.out] at this
              refine this.mono fun e w' ⟨h1, h2, h3⟩ => ⟨h1, h2, h3, ?_, ?_, ?_⟩
              · have hb5 : w.heap.size < W5.heap.size := World.block_lt_of_cell? W5 _ hp5
                rw [World.cell?_of_block (a := ⟨w.heap.size, 0, none⟩) (h3.block w.heap.size hb5 (by simp; omega))]; exact hp5
              · rw [World.cell?_of_block (a := ⟨S, 1, none⟩) (h3.block S sw (by simp; omega))]; exact s1
              · rw [World.frozen?_of_block (a := ⟨S, 1, none⟩) (h3.block S sw (by simp; omega))]; exact sf)
            have hw1 : IntKind.i64.wrap ((K : Int) + 1) = (K : Int) + 1 := by rw [IntKind.wrap_i64]; omega
            subst hz
            go_upto_region 7 with fail
            have hnS : w.heap.size ≠ S := by omega
            have hnS3 : S ≠ w.heap.size := by omega
            go_region_with
              (first
                | (go_at_call 123; refine (hDL.out 1).mono ?_; rintro e w6 ⟨rfl, hR6, hG6, k0, k1, k2⟩))
            all_goals
              go_wp2_with fail
              refine bodyPost_ret (v := .tuple #[]) (by simp [results, Try.results69, go_sem]) rfl ⟨rfl, .slice (some ⟨g1, 0, none⟩) (L1.length - 1) cap1, ?_, ?_, ?_, ?_, ?_⟩
              · have hh := hG6.block S sw (by simp; omega)
                exact SumW.set (v := .slice (some ⟨g1, 0, none⟩) L1.length cap1) ⟨by rw [World.cell?_of_block (a := ⟨S, 0, none⟩) hh]; exact HS5.out.c0, k1, by rw [World.frozen?_of_block (a := ⟨S, 0, none⟩) hh]; exact HS5.out.f0, k2, by have := hG6.size; simp at this; omega⟩ _
              · exact hR6.kept (Kept.set (K := fun k => k = S) (Kept.refl _ _) (p := ⟨S, 1, none⟩) (.inl rfl) _) hn1
              · simp [Value.ownBlock]; exact hn1
              · have q : Kept (fun k => k = S ∨ Value.ownBlock (.slice (some ⟨g, 0, none⟩) L.length cap) = some k) w w6 := Kept.grown_on (w := W5.drewN 1) ⟨HK5.out.os, HK5.out.tape, HK5.out.output, HK5.out.size, HK5.out.block⟩ hG6 (fun k hk hn e => by rcases hor with h | h; exact hn (.inr (by rw [h, e])); omega)
                exact q.set (.inl (.inl rfl)) _
              · exact hor.elim (fun h => .inl (by rw [h]; rfl)) (fun h => .inr ⟨g1, rfl, h⟩)
          · go_wp2_with fail
            have e := HSET.out hz
            refine bodyPost_ret (v := .tuple #[]) (by simp [results, Try.results69, go_sem]) rfl ⟨rfl, .slice (some ⟨g1, 0, none⟩) L1.length cap1, HS5.out, ?_, ?_, HK5.out, ?_⟩
            · have h5 := HR5.out
              rw [e] at h5
              have hl1 : (L1.set K ⟨x.a, x.b, x.c, sm⟩).length = L1.length := List.length_set
              rw [e] at hl1
              rw [← hl1] at h5 ⊢
              exact h5
            · simp [Value.ownBlock]; exact hn1
            · exact hor.elim (fun h => .inl (by rw [h]; rfl)) (fun h => .inr ⟨g1, rfl, h⟩)
end Go.Proofs.Ytiahcaihmgnicaa
