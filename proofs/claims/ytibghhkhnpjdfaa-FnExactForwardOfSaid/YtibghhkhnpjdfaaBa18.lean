/-
  The program goes on from a circuit: its gates are copied, and count for nothing. Conditions: what the slice holds is known.
  goOn of the program: the gates of a circuit are copied, and count for nothing. Conditions: what the slice holds is known.
-/
import Derived.Test.YtibghhkhnpjdfaaBa17
import Derived.Test.YtibghhkhnpjdfaaBa4
import Derived.Deep.MidRow
namespace Go.Proofs.Ytibghhkhnpjdfaa
open Go.RowKit
theorem rowG_of_cells {w : World} {B b cap : Nat} {cur : Array Value} {L : List Gt} (hB : B ≤ b) (hg : w.heap[b]? = some (.cells cur 116 (0, 0))) (hs : cur.size = cap * 3) (hn : L.length ≤ cap) (hm : cap ≤ maxLen)
    (hc : ∀ j u, (flatG L)[j]? = some u → w.cell? ⟨b, j, none⟩ = some u) : RowGt w B (.slice (some ⟨b, 0, none⟩) L.length cap) L := by
  refine ⟨flatG_len L, .inr ⟨b, cap, cur, rfl, hB, hg, hn, hm, hs, ?_⟩⟩
  have hfl := flatG_len L
  apply List.ext_getElem?
  intro j
  by_cases hj : j < L.length * 3
  · rw [List.getElem?_take, if_pos hj]
    have hj2 : j < (flatG L).length := by omega
    have := hc j _ (List.getElem?_eq_getElem hj2)
    rw [cell_of_row w b j cur _ _ hg] at this
    rw [List.getElem?_eq_getElem hj2, ← this]
    simp
  · rw [List.getElem?_take, if_neg hj, List.getElem?_eq_none (by omega)]
theorem run_copy3 (w : World) (ty : TypeId) (b o dLen dCap : Nat) (a : Addr) (sLen sCap n : Nat) (cs : List Value)
    (hn : Nat.min sLen dLen = n) (hl : cs.length = n * 3)
    (hsrc : ∀ j v, cs[j]? = some v → w.cell? (a.add j) = some v) (hc : ∀ j, j < cs.length → (w.cell? ⟨b, o + j, none⟩).isSome = true) (hf : ∀ j, j < cs.length → w.frozen? ⟨b, o + j, none⟩ = false) (h1 : ∀ v ∈ cs, v.oneCell' = true) :
    (Builtin.copy_ #[24, 24] ty #[.slice (some ⟨b, o, none⟩) dLen dCap, .slice (some a) sLen sCap]).run Try.prog w = .ok (goInt n) (w.setCells b o cs) := by
  have hld := run_loadCells_list (P := Try.prog) w a cs hsrc
  have hst := run_storeCells_cells (P := Try.prog) b o cs 0 w (by simpa using hc) (by simpa using hf) h1
  obtain ⟨i, hq, hz0, hz1, hz2⟩ := info_parts infoG
  simp [Builtin.copy_, run_underlying Try.underlying24, Builtin.lenOf, Builtin.firstCells, sizeOf, typeInfo, hq, hz1, hn, ← hl, hld, hst]
theorem madeG (z : Array Value) (n i : Nat) (h : i < n) : ∃ u, (madeCells z n).toList[i]? = some u := by
  rw [List.getElem?_eq_getElem (by simpa [madeCells] using h)]
  exact ⟨_, rfl⟩
theorem readG' {w : World} {g off : Nat} {L : List Gt} (h : ∀ j : Nat, j < L.length → GAt w g (off + j * 3) (L.getD j default)) : ∀ (i : Nat) (u : Value), (flatG L)[i]? = some u → w.cell? ((⟨g, off, none⟩ : Addr).add i) = some u := by
  intro i u hu
  have hi : i < L.length * 3 := by
    have := (List.getElem?_eq_some_iff.1 hu).1
    rwa [flatG_len] at this
  have hj : i / 3 < L.length := by omega
  have e := flatG_at L (i / 3) (i % 3) hj (by omega)
  rw [show i / 3 * 3 + i % 3 = i by omega, hu] at e
  obtain ⟨c0, c1, c2⟩ := h (i / 3) hj
  rw [show (⟨g, off, none⟩ : Addr).add i = ⟨g, off + i, none⟩ by unfold Addr.add; split <;> simp_all]
  have h3 : i % 3 = 0 ∨ i % 3 = 1 ∨ i % 3 = 2 := by omega
  rcases h3 with h3 | h3 | h3
  · rw [h3] at e
    simp only [Gt.cs, List.getElem?_cons_zero, Option.some.injEq] at e
    rw [show off + i = off + i / 3 * 3 by omega, c0, e]
  · rw [h3] at e
    simp only [Gt.cs, List.getElem?_cons_zero, List.getElem?_cons_succ, Option.some.injEq] at e
    rw [show off + i = off + i / 3 * 3 + 1 by omega, c1, e]
  · rw [h3] at e
    simp only [Gt.cs, List.getElem?_cons_zero, List.getElem?_cons_succ, Option.some.injEq] at e
    rw [show off + i = off + i / 3 * 3 + 2 by omega, c2, e]
/-- the cells of a maker whose gates count for nothing -/
def dmL (v : Value) (p : Int) : List Value := v :: .int .i64 p :: (List.replicate 60 (.int .i64 (-1)) ++ [.int .i64 (-1)])
theorem dmL_len (v : Value) (p : Int) : (dmL v p).length = 63 := by simp [dmL]
theorem infoD : (Try.prog.info? 171).map (·.size) = some 63 := by kernel_rfl
/-- a box whose cells are known -/
structure CelW (w : World) (m n : Nat) (F : Nat → Value) : Prop where
  lt : m < w.heap.size
  c : ∀ i, i < n → w.cell? ⟨m, i, none⟩ = some (F i)
  f : ∀ i, i < n → w.frozen? ⟨m, i, none⟩ = false
theorem CelW.set {w : World} {m n i : Nat} {F : Nat → Value} (h : CelW w m n F) (hi : i < n) (u : Value) : CelW (w.setCell ⟨m, i, none⟩ u) m n (fun j => if j = i then u else F j) := by
  refine ⟨by simpa using h.lt, fun j hj => ?_, fun j hj => by rw [World.frozen?_setCell]; exact h.f j hj⟩
  by_cases e : j = i
  · subst e
    rw [World.cell?_setCell_same _ _ _ (h.c j hj), if_pos rfl]
  · rw [World.cell?_setCell_other _ _ _ _ (addr_ne (by omega)), h.c j hj, if_neg e]
theorem CelW.as {w : World} {m n : Nat} {F F' : Nat → Value} (h : CelW w m n F) (he : ∀ i, i < n → F i = F' i) : CelW w m n F' := ⟨h.lt, fun i hi => by rw [h.c i hi, he i hi], h.f⟩
theorem CelW.newL (w : World) (ty : TypeId) (l : List Value) : CelW (w.alloc (.cells l.toArray ty)) w.heap.size l.length (fun i => l.getD i undef) := by
  refine ⟨by simp, fun i hi => ?_, fun i hi => World.frozen?_alloc_at _ _ _ i rfl⟩
  rw [World.cell?_alloc_new]
  simp [List.getD_eq_getElem?_getD, hi]
theorem CelW.below {w w' : World} {m n B : Nat} {F : Nat → Value} (h : CelW w m n F) (hb : Below B w w') (hm : m < B) : CelW w' m n F :=
  ⟨Nat.lt_of_lt_of_le h.lt hb.size, fun i hi => by rw [hb.cell (p := ⟨m, i, none⟩) hm]; exact h.c i hi, fun i hi => by rw [hb.frozen (p := ⟨m, i, none⟩) hm]; exact h.f i hi⟩
/-- the cells while the first k numbers are laid -/
def dmF (v : Value) (p : Int) (k : Nat) : Nat → Value := fun i => if i = 0 then v else if i = 1 then .int .i64 p else if i < 2 + k then .int .i64 (-1) else if i < 62 then .int .i64 0 else .int .i64 (-1)
theorem dmF_end (v : Value) (p : Int) (i : Nat) (hi : i < 63) : dmF v p 60 i = (dmL v p).getD i undef := by
  unfold dmF dmL
  match i with
  | 0 => rfl
  | 1 => rfl
  | j + 2 =>
    rw [if_neg (by omega), if_neg (by omega), List.getD_cons_succ, List.getD_cons_succ, List.getD_eq_getElem?_getD]
    by_cases h : j < 60
    · rw [if_pos (by omega), List.getElem?_append_left (by rw [List.length_replicate]; exact h), List.getElem?_replicate, if_pos h]
      rfl
    · rw [if_neg (by omega), if_neg (by omega), List.getElem?_append_right (by rw [List.length_replicate]; omega), List.length_replicate]
      have : j = 60 := by omega
      subst this
      rfl
theorem dmF_0 (v : Value) (p : Int) (i : Nat) (hi : i < 63) : (v :: .int .i64 p :: (List.replicate 60 (.int .i64 0) ++ [.int .i64 (-1)]) : List Value).getD i undef = dmF v p 0 i := by
  unfold dmF
  match i with
  | 0 => rfl
  | 1 => rfl
  | j + 2 =>
    rw [if_neg (by omega), if_neg (by omega), if_neg (by omega), List.getD_cons_succ, List.getD_cons_succ, List.getD_eq_getElem?_getD]
    by_cases h : j < 60
    · rw [if_pos (by omega), List.getElem?_append_left (by rw [List.length_replicate]; exact h), List.getElem?_replicate, if_pos h]
      rfl
    · rw [if_neg (by omega), List.getElem?_append_right (by rw [List.length_replicate]; omega), List.length_replicate]
      have : j = 60 := by omega
      subst this
      rfl
theorem dmF_step (v : Value) (p : Int) (k i : Nat) (hk : k < 60) : (if i = 2 + k then Value.int .i64 (-1) else dmF v p k i) = dmF v p (k + 1) i := by
  unfold dmF
  by_cases e : i = 2 + k
  · subst e
    rw [if_pos rfl, if_neg (by omega), if_neg (by omega), if_pos (by omega)]
  · rw [if_neg e]
    by_cases e0 : i = 0
    · rw [if_pos e0, if_pos e0]
    · rw [if_neg e0, if_neg e0]
      by_cases e1 : i = 1
      · rw [if_pos e1, if_pos e1]
      · rw [if_neg e1, if_neg e1]
        by_cases e2 : i < 2 + k
        · rw [if_pos e2, if_pos (by omega)]
        · have e3 : ¬ i < 2 + (k + 1) := by omega
          simp only [if_neg e2, if_neg e3]
theorem RowGt.setCells {w : World} {B G : Nat} {v : Value} {L : List Gt} (h : RowGt w B v L) (hG : v.ownBlock ≠ some G) (o : Nat) (vs : List Value) : RowGt (w.setCells G o vs) B v L := by
  obtain ⟨h1, h2, h3, h4, h5⟩ := setCells_frame G vs o w
  exact World.ownsRow.kept (row := some G) h ⟨h1, h2, h3, by rw [h4]; exact Nat.le_refl _, fun k hk hne => h5 k (fun e => hne (by rw [e]))⟩ (.inr hG)
/-- a struct built: the cells are said by the caller -/
theorem wpL_buildD {ops : Array Oper} {rest : List Oper} {o : Oper} {a : Act} {w : World} {Q : Exit → Act → World → Prop} (hg : o.guard = none) (t : TypeId) (parts : Array (Nat × Operand)) (ho : o.op = .build t parts)
    (cells : Array Value) (hf : Try.prog.built t (parts.map fun (i, x) => (i, a.eval x)).toList = some cells)
    (h : wpList Try.prog ops Q rest (a.put o.dst (.agg cells)) w) : wpList Try.prog ops Q (o :: rest) a w := by
  refine wpList_build hg t parts ho (by rw [hf]; rfl) ?_
  rw [hf]
  exact h
/-- the cells before the numbers are laid -/
def dm0 (v : Value) (p : Int) : List Value := v :: .int .i64 p :: (List.replicate 60 (.int .i64 0) ++ [.int .i64 (-1)])
theorem dm0_len (v : Value) (p : Int) : (dm0 v p).length = 63 := by simp [dm0]
theorem dmL_one (b l c : Nat) (p : Int) : ∀ v ∈ dmL (.slice (some ⟨b, 0, none⟩) l c) p, v.oneCell' = true := by
  intro v hv
  simp only [dmL, List.mem_cons, List.mem_append, List.mem_replicate, List.not_mem_nil, or_false] at hv
  rcases hv with h | h | ⟨_, h⟩ | h <;> (subst h; rfl)
theorem dm0_one (b l c : Nat) (p : Int) : ∀ v ∈ dm0 (.slice (some ⟨b, 0, none⟩) l c) p, v.oneCell' = true := by
  intro v hv
  simp only [dm0, List.mem_cons, List.mem_append, List.mem_replicate, List.not_mem_nil, or_false] at hv
  rcases hv with h | h | ⟨_, h⟩ | h <;> (subst h; rfl)
theorem below_setCellsD {B : Nat} {a : World} (b : Nat) : ∀ (vs : List Value) (o : Nat) (w : World), Below B a w → B ≤ b → Below B a (w.setCells b o vs)
  | [], _, _, h, _ => h
  | v :: r, o, w, h, hb => by
    rw [World.setCells]
    exact below_setCellsD b r (o + 1) _ (h.setCell hb _) hb
theorem results_cell_atD {fn : Func} {t : Tmp} {ty : TypeId} (h : fn.results = #[.cell t ty]) (tmps : Array Value) (w : World) (b o : Nat) (hp : tmps.getD t undef = .pointer (some ⟨b, o, none⟩)) (v : Value)
    (hv : (loadVar ty ⟨b, o, none⟩).run Try.prog w = .ok v w) : (results fn tmps).run Try.prog w = .ok v w := by
  have hp' : tmps[t]?.getD undef = .pointer (some ⟨b, o, none⟩) := by simpa using hp
  simp [results, h, hp', asAddr, hv]
end Go.Proofs.Ytibghhkhnpjdfaa
namespace Go.Proofs.Ytibghhkhnpjdfaa
open Go.RowKit
set_option maxRecDepth 100000 in
set_option maxHeartbeats 16000000 in
theorem iGoOn (p : Int) (L : List Gt) (hl0 : 1 ≤ L.length) (hl : L.length ≤ 60) (g off cap : Nat) (w : World) (hg : g < w.heap.size) (hc : ∀ j : Nat, j < L.length → GAt w g (off + j * 3) (L.getD j default)) :
    Calls Try.prog 147 #[.int .i64 p, .slice (some ⟨g, off, none⟩) L.length cap] w fun e w' => ∃ v, e = .returned (.agg (dmL v p).toArray) ∧ RowGt w' w.heap.size v L ∧ Below w.heap.size w w' := by
  obtain ⟨ig, hig, hg0, hg1, hg2⟩ := info_parts infoG
  obtain ⟨n, hn⟩ : ∃ n, n = w.heap.size := ⟨_, rfl⟩
  have HC := Lib.hid hc
  rw [← hn]
  have HN := Lib.hid hn
  have hgn : g < n := by omega
  have hlp : (L.length : Int) ≤ 60 := by omega
  clear hc hn hg
  go_enter Try.func147, Try.ntmps147
  go_upto_region 1 with fail
  change Code.wp _ _ _ _ (w.alloc (.cells ((.slice none 0 0 :: List.replicate 62 (.int .i64 0) : List Value).toArray) 171))
  obtain ⟨W, hW⟩ : ∃ W, W = w.alloc (.cells ((.slice none 0 0 :: List.replicate 62 (.int .i64 0) : List Value).toArray) 171) := ⟨_, rfl⟩
  have hT : CelW W n 63 (fun i => (.slice none 0 0 :: List.replicate 62 (.int .i64 0) : List Value).getD i undef) := by rw [hW, HN.out]; exact CelW.newL w _ _
  have bW : Below n w W := by rw [hW, HN.out]; exact Below.alloc (Below.refl _ _) (Nat.le_refl _) _
  have hsW : W.heap.size = n + 1 := by rw [hW, HN.out]; simp
  rw [← hW, ← HN.out]
  clear hW
  go_wp2_with (at_make; refine wpList_make_full _ rfl _ _ 24 rfl (n + 1) 116 ig (.agg #[.int .i64 0, .int .i64 0, .int .i64 0]) 3 Try.underlying24 hig hg0 hg1 .i64 .i64 L.length L.length L.length rfl rfl rfl rfl ?c2 ?c3 ?c4 ?_)
  case c2 => rw [hg2]; omega
  case c3 => unfold maxLen; omega
  case c4 => rw [hsW]; exact Nat.le_refl _
  intro w1 hown hgr
  have b1 : Below W.heap.size W w1 := (Below.refl _ _).grown hgr (Nat.le_refl _) (fun k hk => by cases hk)
  have hread := readG' (w := w1) (g := g) (off := off) (L := L) (fun j hj => ((HC.out j hj).below bW hgn).below b1 (by omega))
  have hfl := flatG_len L
  have hsp : ∀ i, i < L.length * 3 → (w1.cell? ⟨n + 1, i, none⟩).isSome = true := fun i hi => by
    rw [hown.cellAt i hi]
    obtain ⟨u, hu⟩ := madeG _ _ _ hi
    rw [hu]; rfl
  have hcp := run_copy3 w1 3 (n + 1) 0 L.length L.length ⟨g, off, none⟩ L.length cap L.length (flatG L) (by simp) hfl hread
    (fun j hj => by rw [Nat.zero_add]; exact hsp j (by omega)) (fun j _ => by rw [Nat.zero_add]; exact hown.frozenAt j) (fun v hv => flatG_cell L v hv)
  have hR : RowGt (w1.setCells (n + 1) 0 (flatG L)) n (.slice (some ⟨n + 1, 0, none⟩) L.length L.length) L := by
    obtain ⟨_, h | ⟨b, c, cur, h1, h2, h3, h4, h5, h6, h7⟩⟩ := hown
    · have := h.1; cases this
    · injection h1 with h1 _ h1c
      injection h1 with h1
      injection h1 with h1 _ _
      subst h1 h1c
      obtain ⟨cur', g1, g2⟩ := setCells_row (n + 1) 116 (0, 0) (flatG L) 0 w1 cur h3
      refine rowG_of_cells (Nat.le_succ n) g1 (by rw [g2, h6]) (Nat.le_refl _) h5 fun j u hu => ?_
      have hjl : j < (flatG L).length := (List.getElem?_eq_some_iff.1 hu).1
      have := World.cell?_setCells_in (n + 1) (flatG L) 0 w1 (fun k hk => by rw [Nat.zero_add]; exact hsp k (by omega)) j hjl
      rw [Nat.zero_add] at this
      rw [this]
      rw [List.getElem?_eq_getElem hjl] at hu
      exact hu
  obtain ⟨w2, hw2⟩ : ∃ z, z = w1.setCells (n + 1) 0 (flatG L) := ⟨_, rfl⟩
  rw [← hw2] at hcp hR
  have b2 : Below (n + 1) W w2 := by rw [hw2]; exact below_setCellsD _ _ _ _ (b1.mono (by omega)) (Nat.le_refl _)
  have hT2 := hT.below b2 (Nat.lt_succ_self n)
  have bw2 : Below n w w2 := bW.trans (b2.mono (Nat.le_succ n))
  have HCP := Lib.hid hcp
  have HR := Lib.hid hR
  have HT := Lib.hid hT2
  have HB := Lib.hid bw2
  have hs2 : n + 1 < w2.heap.size := by
    rcases hR.shape with ⟨h, _⟩ | ⟨g4, c4, h, h1, h2⟩
    · cases h
    · injection h with h _ _
      injection h with h
      injection h with h _ _
      omega
  clear hown hgr b1 hread hsp hcp hR hw2 b2 hT hT2 bW bw2 hig hg0 hg1 hg2 hsW
  go_upto_region 3 with (simp only [HCP.out])
  clear HCP
  have hAL := dm0_len (.slice (some ⟨n + 1, 0, none⟩) L.length L.length) p
  have h1 := all_oneCell_toArray (dm0_one (n + 1) L.length L.length p)
  have hI : (Try.prog.info? 171).map (·.size) = some (dm0 (.slice (some ⟨n + 1, 0, none⟩) L.length L.length) p).toArray.size := by simp only [List.size_toArray, hAL]; exact infoD
  obtain ⟨m, hm⟩ : ∃ m, m = w2.heap.size := ⟨_, rfl⟩
  have HM := Lib.hid hm
  have hT0 : CelW (w2.alloc (.cells ((.slice none 0 0 :: List.replicate 62 (.int .i64 0) : List Value).toArray) 171)) m 63 (fun i => (.slice none 0 0 :: List.replicate 62 (.int .i64 0) : List Value).getD i undef) := by rw [hm]; exact CelW.newL w2 _ _
  have hT2 : (w2.alloc (.cells ((.slice none 0 0 :: List.replicate 62 (.int .i64 0) : List Value).toArray) 171)).there m 0 (dm0 (.slice (some ⟨n + 1, 0, none⟩) L.length L.length) p).toArray.size := by
    intro j hj
    simp only [List.size_toArray, hAL] at hj
    rw [Nat.zero_add]
    exact ⟨by rw [hT0.c j hj]; rfl, hT0.f j hj⟩
  have hT3 : CelW ((w2.alloc (.cells ((.slice none 0 0 :: List.replicate 62 (.int .i64 0) : List Value).toArray) 171)).setCells m 0 (dm0 (.slice (some ⟨n + 1, 0, none⟩) L.length L.length) p)) m 63 (dmF (.slice (some ⟨n + 1, 0, none⟩) L.length L.length) p 0) := by
    refine ⟨Nat.lt_of_lt_of_le hT0.lt (Nat.le_of_eq (setCells_frame m _ 0 _).2.2.2.1.symm), fun i hi => ?_, fun i hi => by rw [World.frozen?_setCells]; exact hT0.f i hi⟩
    have hil : i < (dm0 (.slice (some ⟨n + 1, 0, none⟩) L.length L.length) p).length := by rw [hAL]; exact hi
    have := World.cell?_setCells_in m (dm0 (.slice (some ⟨n + 1, 0, none⟩) L.length L.length) p) 0 (w2.alloc (.cells ((.slice none 0 0 :: List.replicate 62 (.int .i64 0) : List Value).toArray) 171)) (fun k hk => by rw [Nat.zero_add, hT0.c k (by omega)]; rfl) i hil
    rw [Nat.zero_add] at this
    rw [this, ← dmF_0 _ p i hi, List.getD_eq_getElem?_getD]
    show _ = some ((dm0 (.slice (some ⟨n + 1, 0, none⟩) L.length L.length) p)[i]?.getD undef)
    rw [List.getElem?_eq_getElem hil]
    rfl
  have hb3 : Below m w2 ((w2.alloc (.cells ((.slice none 0 0 :: List.replicate 62 (.int .i64 0) : List Value).toArray) 171)).setCells m 0 (dm0 (.slice (some ⟨n + 1, 0, none⟩) L.length L.length) p)) :=
    below_setCellsD _ _ _ _ (Below.alloc (Below.refl _ _) (Nat.le_of_eq hm) _) (Nat.le_refl _)
  obtain ⟨w3, hw3⟩ : ∃ z, z = (w2.alloc (.cells ((.slice none 0 0 :: List.replicate 62 (.int .i64 0) : List Value).toArray) 171)).setCells m 0 (dm0 (.slice (some ⟨n + 1, 0, none⟩) L.length L.length) p) := ⟨_, rfl⟩
  rw [← hw3] at hT3 hb3
  have HB3 := Lib.hid hb3
  have HW3 := Lib.hid hw3
  clear hAL hm hT0 hb3 hw3
  go_upto_region 4 with (first
    | (refine wpL_buildD rfl 104 _ rfl #[.slice (some ⟨n + 1, 0, none⟩) L.length L.length, .int .i64 p] (by kernel_rfl) ?_)
    | (refine wpL_buildD rfl 171 _ rfl (dm0 (.slice (some ⟨n + 1, 0, none⟩) L.length L.length) p).toArray (by kernel_rfl) ?_)
    | (refine wpList_store_mid rfl 171 _ _ rfl m 0 (dm0 (.slice (some ⟨n + 1, 0, none⟩) L.length L.length) p).toArray (by rw [HM.out]; rfl) rfl hT2 hI h1 ?_))
  change Code.wp _ _ _ _ ((w2.alloc (.cells ((.slice none 0 0 :: List.replicate 62 (.int .i64 0) : List Value).toArray) 171)).setCells m 0 (dm0 (.slice (some ⟨n + 1, 0, none⟩) L.length L.length) p))
  rw [← HW3.out, ← HM.out]
  clear HW3 hT2 hI h1
  go_wp2_with fail
  go_loopw [18] (fun i wr => ∃ k : Nat, k ≤ 60 ∧ i = .int .i64 k ∧ CelW wr m 63 (dmF (.slice (some ⟨n + 1, 0, none⟩) L.length L.length) p k) ∧ Below m w2 wr) (fun i _ => 60 - (intOf i).toNat)
  case atStart => exact ⟨0, by omega, rfl, hT3, HB3.out⟩
  case round =>
    clear hT3
    obtain ⟨k, hk, rfl, hT, hb⟩ := hrel
    by_cases hlt : k < 60
    · have hk0 : (0 : Int) ≤ (k : Int) := by omega
      have hk1 : (k : Int) < 60 := by omega
      have hwk : IntKind.i64.wrap ((k : Int) + 1) = (k : Int) + 1 := IntWalk.i64_in _ (by omega)
      have hT' := (hT.set (i := 2 + k) (by omega) (.int .i64 (-1))).as (fun i _ => dmF_step _ p k i hlt)
      have hb' := hb.setCell (p := ⟨m, 2 + k, none⟩) (Nat.le_refl _) (.int .i64 (-1))
      have c0 := hT.c (2 + k) (by omega)
      have f0 := hT.f (2 + k) (by omega)
      have HT' := Lib.hid hT'
      have Hb' := Lib.hid hb'
      clear hT hb hT' hb'
      go_wp2_with fail
      go_roundw
      case rel => exact ⟨k + 1, by omega, by simp, HT'.out, Hb'.out⟩
      case measure => simp [intOf] <;> omega
    · have hk1 : ¬ (k : Int) < 60 := by omega
      have hke : k = 60 := by omega
      have HKE := Lib.hid hke
      have hT' : CelW wr m 63 (fun i => (dmL (.slice (some ⟨n + 1, 0, none⟩) L.length L.length) p).getD i undef) := by
        rw [hke] at hT
        exact hT.as (fun i hi => dmF_end _ p i hi)
      have hAL := dmL_len (.slice (some ⟨n + 1, 0, none⟩) L.length L.length) p
      have h1 := all_oneCell_toArray (dmL_one (n + 1) L.length L.length p)
      have hI2 : (Try.prog.info? 171).map (·.size) = some (dmL (.slice (some ⟨n + 1, 0, none⟩) L.length L.length) p).toArray.size := by simp only [List.size_toArray, hAL]; exact infoD
      have hI1 : (Try.prog.info? 171).map (·.size) = some (dmL (.slice (some ⟨n + 1, 0, none⟩) L.length L.length) p).length := by simp only [hAL]; exact infoD
      have hC2 : wr.rangeAt m 0 (dmL (.slice (some ⟨n + 1, 0, none⟩) L.length L.length) p) := by
        intro j v hv
        have hj := (List.getElem?_eq_some_iff.1 hv).1
        rw [hAL] at hj
        rw [Nat.zero_add, hT'.c j hj, List.getD_eq_getElem?_getD, hv]
        rfl
      have hmn : n < m := by rw [HM.out]; omega
      have hTn := HT.out.below hb hmn
      have hT2 : wr.there n 0 (dmL (.slice (some ⟨n + 1, 0, none⟩) L.length L.length) p).toArray.size := by
        intro j hj
        simp only [List.size_toArray, hAL] at hj
        rw [Nat.zero_add]
        exact ⟨by rw [hTn.c j hj]; rfl, hTn.f j hj⟩
      have hT3 : wr.there n 0 (dmL (.slice (some ⟨n + 1, 0, none⟩) L.length L.length) p).length := by simpa only [List.size_toArray] using hT2
      have hE : (wr.setCells n 0 (dmL (.slice (some ⟨n + 1, 0, none⟩) L.length L.length) p)).rangeAt n 0 (dmL (.slice (some ⟨n + 1, 0, none⟩) L.length L.length) p) := World.rangeAt_setCells_same _ _ _ _ hT3
      have hbw := hb
      rw [HM.out] at hbw
      have HR2 := Lib.hid ((HR.out.below hbw).setCells (G := n) (by intro h; simp [Value.ownBlock] at h) 0 (dmL (.slice (some ⟨n + 1, 0, none⟩) L.length L.length) p))
      have HB2 := Lib.hid (below_setCellsD n (dmL (.slice (some ⟨n + 1, 0, none⟩) L.length L.length) p) 0 _ (HB.out.trans (hbw.mono (by omega))) (Nat.le_refl n))
      clear hT hb hT' hAL hmn hTn hT3 hbw hke hlt hk
      go_wp2_with (first
        | (refine wpList_load_mid rfl 171 _ rfl m 0 rfl (dmL (.slice (some ⟨n + 1, 0, none⟩) L.length L.length) p) _ hC2 Try.underlying171 rfl hI1 ?_)
        | (refine wpList_store_mid rfl 171 _ _ rfl n 0 (dmL (.slice (some ⟨n + 1, 0, none⟩) L.length L.length) p).toArray rfl rfl hT2 hI2 h1 ?_))
      have hL := run_loadVar_mid (P := Try.prog) (wr.setCells n 0 (dmL (.slice (some ⟨n + 1, 0, none⟩) L.length L.length) p)) n 0 171 (dmL (.slice (some ⟨n + 1, 0, none⟩) L.length L.length) p) _ hE Try.underlying171 rfl hI1
      refine bodyPost_ret (v := .agg (dmL (.slice (some ⟨n + 1, 0, none⟩) L.length L.length) p).toArray) (results_cell_atD Try.results147 _ _ n 0 rfl _ hL) rfl ⟨_, rfl, HR2.out, HB2.out⟩
end Go.Proofs.Ytibghhkhnpjdfaa
