/- One of the two: the program's. -/
import Derived.Test.YtmomoboedoljfaaOr1
namespace Go.Proofs.Ytmomoboedoljfaa
open Go.ChangeShapes Go.WideShapes Go.ChangeAt Go.RowKit
set_option linter.unusedVariables false
set_option maxRecDepth 4000

/-- The list behind its first. -/
theorem Occs.tail {w : World} {b off : Nat} {x : Occ} {r : List Occ} (h : Occs w (some ⟨b, off, none⟩) (x :: r)) : Occs w (some ⟨b, off + 3, none⟩) r := by
  refine ⟨by have := h.len; simp at this; omega, fun hl => ?_⟩
  obtain ⟨b', off', e, hlt, hc⟩ := h.cells (by simp)
  cases e
  refine ⟨b, off + 3, rfl, hlt, fun i hi => ?_⟩
  have := hc (i + 1) (by simpa using hi)
  rw [show off + (i + 1) * 3 = off + 3 + i * 3 by omega] at this
  simpa using this

theorem mergeF_lt {x y : Occ} {r s : List Occ} (h : ocmp x y < 0) : mergeF (x :: r) (y :: s) = x :: mergeF r (y :: s) := by rw [mergeF, if_pos h]
theorem mergeF_eq {x y : Occ} {r s : List Occ} (h : ocmp x y = 0) : mergeF (x :: r) (y :: s) = x :: mergeF r s := by rw [mergeF, if_neg (by omega), if_pos h]
theorem mergeF_gt {x y : Occ} {r s : List Occ} (h : 0 < ocmp x y) : mergeF (x :: r) (y :: s) = y :: mergeF (x :: r) s := by rw [mergeF, if_neg (by omega), if_neg (by omega)]
theorem mergeF_nil (l : List Occ) : mergeF l [] = l := by cases l <;> simp [mergeF]
/-- The cells of a list that can be read. -/
theorem occs_cells {w : World} {b : Nat} : ∀ (l : List Occ) (off : Nat), Occs w (some ⟨b, off, none⟩) l →
    ∃ M : List OC, M.map (·.o) = l ∧ (∀ j u, (ocCells M)[j]? = some u → w.cell? ((⟨b, off, none⟩ : Addr).add j) = some u) ∧ ∀ x ∈ M, Ints w x.a x.o.ids
  | [], off, _ => ⟨[], rfl, by intro j u h; simp [ocCells] at h, by simp⟩
  | x :: r, off, h => by
    obtain ⟨M, h1, h2, h3⟩ := occs_cells r (off + 3) h.tail
    obtain ⟨b', off', e, _, hc⟩ := h.cells (by simp)
    cases e
    obtain ⟨d0, d1, a, cap, d2, hi⟩ := hc 0 (by simp)
    simp only [Nat.zero_mul, Nat.add_zero, List.getElem_cons_zero] at d0 d1 d2 hi
    refine ⟨⟨x, a, cap⟩ :: M, by simp [h1], ?_, ?_⟩
    · intro j u hj
      have e : ocCells ((⟨x, a, cap⟩ : OC) :: M) = OC.v ⟨x, a, cap⟩ ++ ocCells M := by simp [ocCells]
      rw [e] at hj
      rw [add_plain]
      match j, hj with
      | 0, hj => simp [OC.v] at hj; subst hj; exact d0
      | 1, hj => simp [OC.v] at hj; subst hj; exact d1
      | 2, hj => simp [OC.v] at hj; subst hj; exact d2
      | j + 3, hj =>
        rw [List.getElem?_append_right (by simp [OC.v])] at hj
        have := h2 j u (by simpa [OC.v] using hj)
        rw [add_plain] at this
        rw [show off + (j + 3) = off + 3 + j by omega]
        exact this
    · intro z hz
      rcases List.mem_cons.1 hz with rfl | hz
      · exact hi
      · exact h3 z hz

/-- Nothing is appended. -/
theorem append_nothing {P : Program} (w : World) (t ty e : TypeId) (i : TypeInfo) (ht : P.underlying t = some (.slice e)) (hi : P.info? e = some i) (base ax : Option Addr) (n cap cx : Nat) (hle : n ≤ cap) :
    (Builtin.append_ #[t, t] ty #[.slice base n cap, .slice ax 0 cx]).run P w = .ok (.slice base n cap) w := by
  cases base <;> cases ax <;> simp [Builtin.append_, run_underlying ht, sizeOf, typeInfo, hi, Builtin.lenOf, Builtin.firstCells, hle, storeCells, loadCells, loadCellsFrom]
/-- An append whose run is known, as a walk meets it. -/
theorem wpList_append_run {P : Program} {w : World} {ops : Array Oper} {rest : List Oper} {o : Oper} {a : Act} {Q : Exit → Act → World → Prop} (hgd : o.guard = none) (s x : Operand) (t : TypeId)
    (ho : o.op = .call { callee := .builtin .append, args := #[s, x], argTypes := #[t, t] }) (vs vx : Value) (hs : a.eval s = vs) (hx : a.eval x = vx) {v' : Value} {w' : World}
    (hr : (Builtin.append_ #[t, t] o.type #[vs, vx]).run P w = .ok v' w') (h : wpList P ops Q rest (a.put o.dst v') w') : wpList P ops Q (o :: rest) a w := by
  refine wpList_plain hgd fun _ hK => ?_
  unfold Oper.wp execOp
  simp only [ho, resolve, invoke, builtin, Sem.run_bind, Sem.run_pure, Result.andThen_ok, List.map_toArray, List.map_cons, List.map_nil, hs, hx, hr]
  exact hK _ _ h

def sliceLen : Value → Nat
  | .slice _ n _ => n
  | _ => 0
/-- What the merging has done so far. -/
def MergeInv (w : World) (l m : List Occ) (sa sb sv : Value) (wr : World) : Prop :=
  ∃ aA cA l1 aB cB m1 L, sa = .slice aA (List.length l1) cA ∧ l1.length ≤ cA ∧ Occs w aA l1 ∧ sb = .slice aB (List.length m1) cB ∧ m1.length ≤ cB ∧ Occs w aB m1 ∧ Hid (mergeF l m = List.map OC.o L ++ mergeF l1 m1) ∧
    wr.ownsRow w.heap.size 32 3 sv L.length (ocCells L) ∧ (∀ x ∈ L, Ints w x.a x.o.ids) ∧ L.length + l1.length + m1.length ≤ 100000 ∧ Below w.heap.size w wr

set_option maxHeartbeats 2000000 in
theorem mergeOnce_any (a a' : Option Addr) (cap cap' : Nat) (l m : List Occ) (w : World) (h : Occs w a l) (h' : Occs w a' m) (hc : l.length ≤ cap) (hc' : m.length ≤ cap') (hn : l.length + m.length ≤ 100000) :
    Calls Try.prog 15 #[.slice a l.length cap, .slice a' m.length cap', .func (.func 16) #[] #[]] w
      fun e w' => ∃ v L, e = .returned v ∧ L.map (·.o) = mergeF l m ∧ w'.ownsRow w.heap.size 32 3 v L.length (ocCells L) ∧ (∀ x ∈ L, Ints w' x.a x.o.ids) ∧ Below w.heap.size w w' := by
  obtain ⟨i0, hi, hz0, hz1, hz2⟩ := info_occ_parts
  go_enter Try.func15, Try.ntmps15
  go_wp2
  go_loopw [0, 1, 7, 8] (fun sa sb sv _ wr => MergeInv w l m sa sb sv wr) (fun sa sb _ _ _ => sliceLen sa + sliceLen sb)
  case atStart => exact ⟨a, cap, l, a', cap', m, [], rfl, hc, h, rfl, hc', h', rfl, World.ownsRow_nil _ _ _ _, by simp, by simpa using hn, Below.refl _ _⟩
  case round =>
    obtain ⟨aA, cA, l1, aB, cB, m1, L, rfl, hcA, hA, rfl, hcB, hB, hM, hrow, hI, hsum, hb⟩ := hrel
    obtain ⟨av, cv, rfl⟩ := pOwns_slice hrow
    have hcv : L.length ≤ cv := by
      rcases hrow.2 with ⟨e, hn0⟩ | ⟨g, cap2, cur, e, _, _, hnc, _⟩
      · omega
      · cases e; exact hnc
    cases l1 with
    | nil =>
      cases m1 with
      | nil =>
        simp only [List.length_nil] at hsum hcA hcB ⊢
        go_wp2_with (at_builtin; refine wpList_append_run rfl _ _ 23 rfl _ _ rfl rfl (append_nothing _ 23 _ 32 i0 Try.underlying23 hi _ _ _ _ _ hcv) ?_)
        go_ret
        refine ⟨_, L, rfl, by rw [hM.out]; simp [mergeF], hrow, fun z hz => (hI z hz).below hb, hb⟩
      | cons y s =>
        obtain ⟨bB, oB, eB, hltB, _⟩ := hB.cells (by simp)
        subst eB
        obtain ⟨M, hMl, hMc, hMi⟩ := occs_cells (y :: s) oB hB
        have hMn : M.length = s.length + 1 := by have := congrArg List.length hMl; simpa using this
        simp only [List.length_cons, List.length_nil] at hsum hcA hcB ⊢
        have HMn : Hid (M.length = s.length + 1) := hMn
        clear hMn
        go_wp2_with (at_builtin; first | refine wpList_append_where rfl _ _ 23 rfl w.heap.size 32 i0 (.agg #[.int .i64 0, .int .i64 0, .slice none 0 0]) 3 40 Try.underlying23 hi hz0 hz1 hz2 rfl (by decide) (.slice av L.length cv) L.length (ocCells L) rfl hrow ⟨bB, oB, none⟩ (s.length + 1) cB (ocCells M) rfl ?c0 ?c1 ?c2 ?c3 ?c4 ?c5 ?_ | refine wpList_append_run rfl _ _ 23 rfl _ _ rfl rfl (append_nothing _ 23 _ 32 i0 Try.underlying23 hi _ _ _ _ _ hcv) ?_)
        case c0 => rw [ocCells_length, HMn.out]
        case c1 => exact fun j u hj => (hb.cell (by rw [add_plain]; exact hltB)).trans (hMc j u hj)
        case c2 => exact ocCells_one _
        case c3 => unfold maxLen; omega
        case c4 => omega
        case c5 => exact hb.size
        intro v2 w2 r1 r2 r3
        have hb2 : Below w.heap.size w w2 := hb.grown r2 hb.size (fun k hk => (hrow.lt k hk).1)
        go_wp2
        go_ret
        refine ⟨_, L ++ M, rfl, by rw [List.map_append, hM.out, hMl]; simp [mergeF], by rw [List.length_append, HMn.out, ocCells_append]; exact r1, fun z hz => ?_, hb2⟩
        rcases List.mem_append.1 hz with hz | hz
        · exact (hI z hz).below hb2
        · exact (hMi z hz).below hb2
    | cons x r =>
      cases m1 with
      | nil =>
        obtain ⟨bA, oA, eA, hltA, _⟩ := hA.cells (by simp)
        subst eA
        obtain ⟨M, hMl, hMc, hMi⟩ := occs_cells (x :: r) oA hA
        have hMn : M.length = r.length + 1 := by have := congrArg List.length hMl; simpa using this
        simp only [List.length_cons, List.length_nil] at hsum hcA hcB ⊢
        have HMn : Hid (M.length = r.length + 1) := hMn
        clear hMn
        go_wp2_with (at_builtin; first | refine wpList_append_where rfl _ _ 23 rfl w.heap.size 32 i0 (.agg #[.int .i64 0, .int .i64 0, .slice none 0 0]) 3 40 Try.underlying23 hi hz0 hz1 hz2 rfl (by decide) (.slice av L.length cv) L.length (ocCells L) rfl hrow ⟨bA, oA, none⟩ (r.length + 1) cA (ocCells M) rfl ?c0 ?c1 ?c2 ?c3 ?c4 ?c5 ?_ | refine wpList_append_run rfl _ _ 23 rfl _ _ rfl rfl (append_nothing _ 23 _ 32 i0 Try.underlying23 hi _ _ _ _ _ hcv) ?_)
        case c0 => rw [ocCells_length, HMn.out]
        case c1 => exact fun j u hj => (hb.cell (by rw [add_plain]; exact hltA)).trans (hMc j u hj)
        case c2 => exact ocCells_one _
        case c3 => unfold maxLen; omega
        case c4 => omega
        case c5 => exact hb.size
        intro v2 w2 r1 r2 r3
        have hb2 : Below w.heap.size w w2 := hb.grown r2 hb.size (fun k hk => (hrow.lt k hk).1)
        obtain ⟨a2, c2, rfl⟩ := pOwns_slice r1
        have hcv2 : L.length + (r.length + 1) ≤ c2 := by
          rcases r1.2 with ⟨e, hn0⟩ | ⟨g, cap2, cur, e, _, _, hnc, _⟩
          · omega
          · cases e; exact hnc
        go_wp2_with (at_builtin; refine wpList_append_run rfl _ _ 23 rfl _ _ rfl rfl (append_nothing _ 23 _ 32 i0 Try.underlying23 hi _ _ _ _ _ hcv2) ?_)
        go_ret
        refine ⟨_, L ++ M, rfl, by rw [List.map_append, hM.out, hMl]; simp [mergeF], by rw [List.length_append, HMn.out, ocCells_append]; exact r1, fun z hz => ?_, hb2⟩
        rcases List.mem_append.1 hz with hz | hz
        · exact (hI z hz).below hb2
        · exact (hMi z hz).below hb2
      | cons y s =>
        have hwfA := hA.below hb
        have hwfB := hB.below hb
        obtain ⟨bA, oA, eA, hltA, hcellA⟩ := hA.cells (by simp)
        obtain ⟨bB, oB, eB, hltB, hcellB⟩ := hB.cells (by simp)
        subst eA
        subst eB
        obtain ⟨d0, d1, p, cp, d2, hidx⟩ := hcellA 0 (by simp)
        obtain ⟨f0, f1, q, cq, f2, hidy⟩ := hcellB 0 (by simp)
        simp only [Nat.zero_mul, Nat.add_zero, List.getElem_cons_zero] at d0 d1 d2 hidx f0 f1 f2 hidy
        have hbA := Nat.lt_of_lt_of_le hltA hb.size
        have hbB := Nat.lt_of_lt_of_le hltB hb.size
        have a0 := fun u : After wr => u.cell ((hb.cell hltA).trans d0) hbA
        have a1 := fun u : After wr => u.cell ((hb.cell hltA).trans d1) hbA
        have a2 := fun u : After wr => u.cell ((hb.cell hltA).trans d2) hbA
        have g0 := fun u : After wr => u.cell ((hb.cell hltB).trans f0) hbB
        have g1 := fun u : After wr => u.cell ((hb.cell hltB).trans f1) hbB
        have g2 := fun u : After wr => u.cell ((hb.cell hltB).trans f2) hbB
        have hcall := fun (u : After wr) => calls_after (u := u) (occCompare_any x.fr x.tl p cp x.ids y.fr y.tl q cq y.ids u.v ((hidx.below hb).below u.h) ((hidy.below hb).below u.h))
        obtain ⟨C, hC⟩ : ∃ C, occCmp x.fr x.tl x.ids y.fr y.tl y.ids = C := ⟨_, rfl⟩
        have HC : Hid (ocmp x y = C) := hC
        rw [hC] at hcall
        clear hC hwfA hwfB
        simp only [List.length_cons] at hsum hcA hcB ⊢
        have hTA := hA.tail
        have hTB := hB.tail
        clear hcellA hcellB hcv
        have hany := after_any
        rcases Int.lt_trichotomy C 0 with hlt | rfl | hgt
        · go_wp2
          refine wp_region_after (by kernel_rfl) (by kernel_rfl) ?_
          repeat (go_big_quiet_step ((go_at_call 16; refine hcall _)))
          refine wpQuiet_nil ?_
          intro w1 hu
          have hb1 := after_of hu
          have hbw1 : Below w.heap.size w w1 := hb.trans (hb1.mono hb.size)
          clear hu hcall a0 a1 a2 g0 g1 g2
          have hle : C ≤ 0 := by omega
          have hnge : ¬ (0 ≤ C) := by omega
          have hlaw := mergeF_lt (r := r) (s := s) (show ocmp x y < 0 by rw [HC.out]; exact hlt)
          have k0 := (hbw1.cell hltA).trans d0
          have k1 := (hbw1.cell hltA).trans d1
          have k2 := (hbw1.cell hltA).trans d2
          go_wp2_with (at_builtin; refine wpList_append_where rfl _ _ 23 rfl w.heap.size 32 i0 (.agg #[.int .i64 0, .int .i64 0, .slice none 0 0]) 3 40 Try.underlying23 hi hz0 hz1 hz2 rfl (by decide) (.slice av L.length cv) L.length (ocCells L) rfl ?own ⟨w1.heap.size, 0, none⟩ 1 1 (OC.v ⟨x, p, cp⟩) rfl rfl ?c1 ?c2 ?c3 ?c4 ?c5 ?_)
          case own => exact pOwns_below (pOwns_below hrow hb1) (oBelow_new _ _)
          case c1 => first | exact new_occ w1 ⟨x, p, cp⟩ _ | exact fun j u hj => hj
          case c2 => exact ocv_one _
          case c3 => unfold maxLen; omega
          case c4 => omega
          case c5 => have := hbw1.size; simp; omega
          intro v2 w2 r1 r2 r3
          have hb2 : Below w.heap.size w w2 := (hbw1.alloc hbw1.size _).grown r2 (by have := hbw1.size; simp; omega) (fun k hk => (hrow.lt k hk).1)
          have hnx : w2.ownsRow w.heap.size 32 3 v2 (L ++ [(⟨x, p, cp⟩ : OC)]).length (ocCells (L ++ [(⟨x, p, cp⟩ : OC)])) := by rw [ocCells_snoc]; simpa using r1
          have hin : ∀ z ∈ L ++ [(⟨x, p, cp⟩ : OC)], Ints w z.a z.o.ids := by
            intro z hz
            rcases List.mem_append.1 hz with hz | hz
            · exact hI z hz
            · simp at hz; subst hz; exact hidx
          clear r1 r2 r3 hrow
          by_cases hc1 : cA = 1
          · subst hc1
            obtain rfl : r = [] := List.eq_nil_of_length_eq_zero (by omega)
            go_wp2
            refine ⟨⟨_, _, [], _, _, (y :: s), L ++ [(⟨x, p, cp⟩ : OC)], rfl, by simp, Occs.nil _ _, rfl, by simp; omega, hB, ?_, hnx, hin, by simp; omega, hb2⟩, by simp [sliceLen] <;> omega⟩
            show _ = _
            rw [hM.out, hlaw]
            simp
          · go_wp2
            refine ⟨⟨_, _, r, _, _, (y :: s), L ++ [(⟨x, p, cp⟩ : OC)], rfl, by omega, hTA, rfl, by simp; omega, hB, ?_, hnx, hin, by simp; omega, hb2⟩, by simp [sliceLen] <;> omega⟩
            show _ = _
            rw [hM.out, hlaw]
            simp
        · go_wp2
          refine wp_region_after (by kernel_rfl) (by kernel_rfl) ?_
          repeat (go_big_quiet_step ((go_at_call 16; refine hcall _)))
          refine wpQuiet_nil ?_
          intro w1 hu
          have hb1 := after_of hu
          have hbw1 : Below w.heap.size w w1 := hb.trans (hb1.mono hb.size)
          clear hu hcall a0 a1 a2 g0 g1 g2
          have hlaw := mergeF_eq (r := r) (s := s) (show ocmp x y = 0 from HC.out)
          have k0 := (hbw1.cell hltA).trans d0
          have k1 := (hbw1.cell hltA).trans d1
          have k2 := (hbw1.cell hltA).trans d2
          go_wp2_with (at_builtin; refine wpList_append_where rfl _ _ 23 rfl w.heap.size 32 i0 (.agg #[.int .i64 0, .int .i64 0, .slice none 0 0]) 3 40 Try.underlying23 hi hz0 hz1 hz2 rfl (by decide) (.slice av L.length cv) L.length (ocCells L) rfl ?own ⟨w1.heap.size, 0, none⟩ 1 1 (OC.v ⟨x, p, cp⟩) rfl rfl ?c1 ?c2 ?c3 ?c4 ?c5 ?_)
          case own => exact pOwns_below (pOwns_below hrow hb1) (oBelow_new _ _)
          case c1 => first | exact new_occ w1 ⟨x, p, cp⟩ _ | exact fun j u hj => hj
          case c2 => exact ocv_one _
          case c3 => unfold maxLen; omega
          case c4 => omega
          case c5 => have := hbw1.size; simp; omega
          intro v2 w2 r1 r2 r3
          have hb2 : Below w.heap.size w w2 := (hbw1.alloc hbw1.size _).grown r2 (by have := hbw1.size; simp; omega) (fun k hk => (hrow.lt k hk).1)
          have hnx : w2.ownsRow w.heap.size 32 3 v2 (L ++ [(⟨x, p, cp⟩ : OC)]).length (ocCells (L ++ [(⟨x, p, cp⟩ : OC)])) := by rw [ocCells_snoc]; simpa using r1
          have hin : ∀ z ∈ L ++ [(⟨x, p, cp⟩ : OC)], Ints w z.a z.o.ids := by
            intro z hz
            rcases List.mem_append.1 hz with hz | hz
            · exact hI z hz
            · simp at hz; subst hz; exact hidx
          clear r1 r2 r3 hrow
          by_cases hc1 : cA = 1
          · subst hc1
            obtain rfl : r = [] := List.eq_nil_of_length_eq_zero (by omega)
            by_cases hc2 : cB = 1
            · subst hc2
              obtain rfl : s = [] := List.eq_nil_of_length_eq_zero (by omega)
              go_wp2
              refine ⟨⟨_, _, [], _, _, [], L ++ [(⟨x, p, cp⟩ : OC)], rfl, by simp, Occs.nil _ _, rfl, by simp, Occs.nil _ _, ?_, hnx, hin, by simp; omega, hb2⟩, by simp [sliceLen] <;> omega⟩
              show _ = _
              rw [hM.out, hlaw]
              simp
            · go_wp2
              refine ⟨⟨_, _, [], _, _, s, L ++ [(⟨x, p, cp⟩ : OC)], rfl, by simp, Occs.nil _ _, rfl, by omega, hTB, ?_, hnx, hin, by simp; omega, hb2⟩, by simp [sliceLen] <;> omega⟩
              show _ = _
              rw [hM.out, hlaw]
              simp
          · by_cases hc2 : cB = 1
            · subst hc2
              obtain rfl : s = [] := List.eq_nil_of_length_eq_zero (by omega)
              go_wp2
              refine ⟨⟨_, _, r, _, _, [], L ++ [(⟨x, p, cp⟩ : OC)], rfl, by omega, hTA, rfl, by simp, Occs.nil _ _, ?_, hnx, hin, by simp; omega, hb2⟩, by simp [sliceLen] <;> omega⟩
              show _ = _
              rw [hM.out, hlaw]
              simp
            · go_wp2
              refine ⟨⟨_, _, r, _, _, s, L ++ [(⟨x, p, cp⟩ : OC)], rfl, by omega, hTA, rfl, by omega, hTB, ?_, hnx, hin, by simp; omega, hb2⟩, by simp [sliceLen] <;> omega⟩
              show _ = _
              rw [hM.out, hlaw]
              simp
        · go_wp2
          refine wp_region_after (by kernel_rfl) (by kernel_rfl) ?_
          repeat (go_big_quiet_step ((go_at_call 16; refine hcall _)))
          refine wpQuiet_nil ?_
          intro w1 hu
          have hb1 := after_of hu
          have hbw1 : Below w.heap.size w w1 := hb.trans (hb1.mono hb.size)
          clear hu hcall a0 a1 a2 g0 g1 g2
          have hnle : ¬ (C ≤ 0) := by omega
          have hge : 0 ≤ C := by omega
          have hlaw := mergeF_gt (r := r) (s := s) (show 0 < ocmp x y by rw [HC.out]; exact hgt)
          have k0 := (hbw1.cell hltB).trans f0
          have k1 := (hbw1.cell hltB).trans f1
          have k2 := (hbw1.cell hltB).trans f2
          go_wp2_with (at_builtin; refine wpList_append_where rfl _ _ 23 rfl w.heap.size 32 i0 (.agg #[.int .i64 0, .int .i64 0, .slice none 0 0]) 3 40 Try.underlying23 hi hz0 hz1 hz2 rfl (by decide) (.slice av L.length cv) L.length (ocCells L) rfl ?own ⟨w1.heap.size, 0, none⟩ 1 1 (OC.v ⟨y, q, cq⟩) rfl rfl ?c1 ?c2 ?c3 ?c4 ?c5 ?_)
          case own => exact pOwns_below (pOwns_below hrow hb1) (oBelow_new _ _)
          case c1 => first | exact new_occ w1 ⟨y, q, cq⟩ _ | exact fun j u hj => hj
          case c2 => exact ocv_one _
          case c3 => unfold maxLen; omega
          case c4 => omega
          case c5 => have := hbw1.size; simp; omega
          intro v2 w2 r1 r2 r3
          have hb2 : Below w.heap.size w w2 := (hbw1.alloc hbw1.size _).grown r2 (by have := hbw1.size; simp; omega) (fun k hk => (hrow.lt k hk).1)
          have hnx : w2.ownsRow w.heap.size 32 3 v2 (L ++ [(⟨y, q, cq⟩ : OC)]).length (ocCells (L ++ [(⟨y, q, cq⟩ : OC)])) := by rw [ocCells_snoc]; simpa using r1
          have hin : ∀ z ∈ L ++ [(⟨y, q, cq⟩ : OC)], Ints w z.a z.o.ids := by
            intro z hz
            rcases List.mem_append.1 hz with hz | hz
            · exact hI z hz
            · simp at hz; subst hz; exact hidy
          clear r1 r2 r3 hrow
          by_cases hc2 : cB = 1
          · subst hc2
            obtain rfl : s = [] := List.eq_nil_of_length_eq_zero (by omega)
            go_wp2
            refine ⟨⟨_, _, (x :: r), _, _, [], L ++ [(⟨y, q, cq⟩ : OC)], rfl, by simp; omega, hA, rfl, by simp, Occs.nil _ _, ?_, hnx, hin, by simp; omega, hb2⟩, by simp [sliceLen] <;> omega⟩
            show _ = _
            rw [hM.out, hlaw]
            simp
          · go_wp2
            refine ⟨⟨_, _, (x :: r), _, _, s, L ++ [(⟨y, q, cq⟩ : OC)], rfl, by simp; omega, hA, rfl, by omega, hTB, ?_, hnx, hin, by simp; omega, hb2⟩, by simp [sliceLen] <;> omega⟩
            show _ = _
            rw [hM.out, hlaw]
            simp

set_option maxHeartbeats 1000000 in
theorem implOrOf_any (a a' : Option Addr) (cap cap' : Nat) (l m : List Occ) (w : World) (h : Occs w a l) (h' : Occs w a' m) (hc : l.length ≤ cap) (hc' : m.length ≤ cap') :
    Calls Try.prog 6 #[.slice a l.length cap, .slice a' m.length cap'] w (ToldPost w (orF2 l m).1 (orF2 l m).2) := by
  cases h1 : occsOkB l
  · have e : orF2 l m = ([], false) := by simp [orF2, h1]
    rw [e]
    go_enter Try.func6, Try.ntmps6
    go_wp2_with fail
    refine (implOccsOk_any _ _ l _ h).mono ?_
    rintro e w1 ⟨rfl, hb1⟩
    rw [h1]
    go_wp2
    go_ret2
    exact ⟨_, [], rfl, rfl, OccsOwn.nil _ _, hb1⟩
  · cases h2 : occsOkB m
    · have e : orF2 l m = ([], false) := by simp [orF2, h2]
      rw [e]
      go_enter Try.func6, Try.ntmps6
      go_wp2_with fail
      refine (implOccsOk_any _ _ l _ h).mono ?_
      rintro e w1 ⟨rfl, hb1⟩
      rw [h1]
      go_wp2_with fail
      refine (implOccsOk_any _ _ m _ (h'.below hb1)).mono ?_
      rintro e w2 ⟨rfl, hb2⟩
      rw [h2]
      have b2 := hb1.trans (hb2.mono hb1.size)
      go_wp2
      go_ret2
      exact ⟨_, [], rfl, rfl, OccsOwn.nil _ _, b2⟩
    · have e : orF2 l m = toldF (putAll l m) := by simp [orF2, h1, h2]
      rw [e]
      have hokl : ∀ o ∈ l, o.Ok := ok_each h1
      have hokm : ∀ o ∈ m, o.Ok := ok_each h2
      have hl40 := ok_len h1
      have hm40 := ok_len h2
      have hmp := merge_putAll (asc_ok h1) (asc_ok h2)
      have hok4 : ∀ o ∈ putAll l m, o.Ok := fun o ho => by
        rcases (mem_putAll _ _ _).1 ho with h1 | h1
        · exact hokl o h1
        · exact hokm o h1
      obtain ⟨P, hP⟩ : ∃ P, putAll l m = P := ⟨_, rfl⟩
      rw [hP] at hok4 hmp ⊢
      clear hP
      by_cases h40 : (40 : Int) < (P.length : Int)
      · have e : toldF P = ([], false) := if_pos (by omega)
        rw [e]
        go_enter Try.func6, Try.ntmps6
        go_wp2_with fail
        refine (implOccsOk_any _ _ l _ h).mono ?_
        rintro e w1 ⟨rfl, hb1⟩
        rw [h1]
        go_wp2_with fail
        refine (implOccsOk_any _ _ m _ (h'.below hb1)).mono ?_
        rintro e w2 ⟨rfl, hb2⟩
        rw [h2]
        have b2 := hb1.trans (hb2.mono hb1.size)
        go_wp2_with fail
        refine (mergeOnce_any _ _ _ _ l m _ (h.below b2) (h'.below b2) hc hc' (by omega)).mono ?_
        rintro e w3 ⟨v3, L3, rfl, hL3, hrow3, hI3, hb3⟩
        have b3 := b2.trans (hb3.mono b2.size)
        rw [hmp] at hL3
        obtain ⟨a3, c3, rfl⟩ := pOwns_slice hrow3
        have hocc3 := row_occs hrow3 hI3
        have hlen3 : L3.length = P.length := by rw [← hL3]; simp
        rw [hL3] at hocc3
        rw [hlen3]
        clear hlen3 hrow3
        have hlen := hocc3.len
        unfold maxLen at hlen
        go_wp2
        go_ret2
        exact ⟨_, [], rfl, rfl, OccsOwn.nil _ _, b3⟩
      · have e : toldF P = (P, true) := if_neg (by omega)
        rw [e]
        have hsz := oks_size hok4
        have hse : occsSize P ≤ 1048576 := by unfold occsSize; omega
        go_enter Try.func6, Try.ntmps6
        go_wp2_with fail
        refine (implOccsOk_any _ _ l _ h).mono ?_
        rintro e w1 ⟨rfl, hb1⟩
        rw [h1]
        go_wp2_with fail
        refine (implOccsOk_any _ _ m _ (h'.below hb1)).mono ?_
        rintro e w2 ⟨rfl, hb2⟩
        rw [h2]
        have b2 := hb1.trans (hb2.mono hb1.size)
        go_wp2_with fail
        refine (mergeOnce_any _ _ _ _ l m _ (h.below b2) (h'.below b2) hc hc' (by omega)).mono ?_
        rintro e w3 ⟨v3, L3, rfl, hL3, hrow3, hI3, hb3⟩
        have b3 := b2.trans (hb3.mono b2.size)
        rw [hmp] at hL3
        obtain ⟨a3, c3, rfl⟩ := pOwns_slice hrow3
        have hocc3 := row_occs hrow3 hI3
        have hlen3 : L3.length = P.length := by rw [← hL3]; simp
        rw [hL3] at hocc3
        rw [hlen3]
        clear hlen3 hrow3
        have hlen := hocc3.len
        unfold maxLen at hlen
        go_wp2_with fail
        refine (occsCopy_any _ _ P _ hocc3 hse (fun o ho => (hok4 o ho).good.1)).mono ?_
        rintro e w4 ⟨v4, L4, rfl, hL4, hO4, hb4⟩
        go_wp2
        go_ret2
        exact ⟨_, L4, rfl, hL4, hO4.low b3.size, b3.trans (hb4.mono b3.size)⟩
end Go.Proofs.Ytmomoboedoljfaa
