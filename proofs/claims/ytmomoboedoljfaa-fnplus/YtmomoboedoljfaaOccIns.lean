/- slices.Insert of one place into a row of the call's own. -/
import Derived.Test.YtmomoboedoljfaaOccP4
import Derived.Lib.Overlaps
import Derived.Lib.AppendZerosOnto
import Derived.Laws.CopyRow
namespace Go.Proofs.Ytmomoboedoljfaa
open Go.ChangeShapes Go.WideShapes Go.ChangeAt Go.RowKit
set_option linter.unusedVariables false
set_option maxRecDepth 4000

section
variable {P : Program}
/-- A copy into a row of places. -/
theorem copy_row3 (w : World) (dT sT ty elem : TypeId) (i : TypeInfo) (g o dLen dCap : Nat) (a : Addr) (sLen sCap : Nat) (cur : Array Value) (t : TypeId) (cs : List Value) (hu : P.underlying dT = some (.slice elem)) (hq : P.info? elem = some i) (hi : i.size = 3)
    (hg : w.heap[g]? = some (.cells cur t (0, 0))) (hn : cs.length = Nat.min sLen dLen * 3) (hsrc : ∀ j v, cs[j]? = some v → w.cell? (a.add j) = some v) (hfit : o + cs.length ≤ cur.size) (h1 : ∀ v ∈ cs, v.oneCell' = true) :
    (Builtin.copy_ #[dT, sT] ty #[.slice (some ⟨g, o, none⟩) dLen dCap, .slice (some a) sLen sCap]).run P w =
      .ok (goInt (Nat.min sLen dLen)) (w.setRow g (cur.toList.take o ++ cs ++ cur.toList.drop (o + cs.length)).toArray) := by
  have hl := run_loadCells_list (P := P) w a cs hsrc
  have hst := run_storeCells_at P g o t cs 0 cur w hg (by simpa using hfit) h1
  simp [Builtin.copy_, run_underlying hu, Builtin.lenOf, Builtin.firstCells, sizeOf, typeInfo, hq, hi, ← hn, hl, hst]
theorem wpList_copy_run {w : World} {ops : Array Oper} {rest : List Oper} {o : Oper} {a : Act} {Q : Exit → Act → World → Prop} (hgd : o.guard = none) (d s : Operand) (t t' : TypeId)
    (ho : o.op = .call { callee := .builtin .copy, args := #[d, s], argTypes := #[t, t'] }) (v u : Value) (hd : a.eval d = v) (hs : a.eval s = u) {v' : Value} {w' : World}
    (hr : (Builtin.copy_ #[t, t'] o.type #[v, u]).run P w = .ok v' w') (h : wpList P ops Q rest (a.put o.dst v') w') : wpList P ops Q (o :: rest) a w := by
  refine wpList_plain hgd fun _ hK => ?_
  unfold Oper.wp execOp
  simp only [ho, resolve, invoke, builtin, Sem.run_bind, Sem.run_pure, Result.andThen_ok, List.map_toArray, List.map_cons, List.map_nil, hd, hs, hr]
  exact hK _ _ h
theorem wpList_build_run {w : World} {ops : Array Oper} {rest : List Oper} {o : Oper} {a : Act} {Q : Exit → Act → World → Prop} (hgd : o.guard = none) (s x : Operand) (t t' : TypeId)
    (ho : o.op = .call { callee := .builtin .append, args := #[s, x], argTypes := #[t, t'] }) (vs vx : Value) (hs : a.eval s = vs) (hx : a.eval x = vx) {v' : Value} {w' : World}
    (hr : (Builtin.append_ #[t, t'] o.type #[vs, vx]).run P w = .ok v' w') (h : wpList P ops Q rest (a.put o.dst v') w') : wpList P ops Q (o :: rest) a w := by
  refine wpList_plain hgd fun _ hK => ?_
  unfold Oper.wp execOp
  simp only [ho, resolve, invoke, builtin, Sem.run_bind, Sem.run_pure, Result.andThen_ok, List.map_toArray, List.map_cons, List.map_nil, hs, hx, hr]
  exact hK _ _ h
theorem step_copy_run {ops : Array Oper} {o : Oper} {a : Act} {w : World} {K : Act → World → Prop} {Q : Exit → Act → World → Prop} {E : Prop} (hg : o.guard = none) (d x : Operand) (dT sT : TypeId)
    (hop : o.op = Op.call { callee := Callee.builtin Builtin.copy, args := #[d, x], argTypes := #[dT, sT] }) (v u : Value) (hd : a.eval d = v) (hx : a.eval x = u) {v' : Value} {w' : World}
    (hr : (Builtin.copy_ #[dT, sT] o.type #[v, u]).run P w = .ok v' w') (hK : K (a.put o.dst v') w') : if Region.wanted o (yielded ops a.tmps) = true then Oper.wp P o a w K Q else E := by
  have hw : Region.wanted o (yielded ops a.tmps) = true := by simp [Region.wanted, hg]
  rw [if_pos hw]
  unfold Oper.wp
  simp [execOp, hop, resolve, invoke, builtin, hd, hx, hr, Result.andThen]
  exact hK
end

/-- In place: what stands from k on goes up, then X is laid there. -/
theorem ins_place {C D X P : List Value} {k d : Nat} (hP : C.take k = P) (hX : X.length = 3) (hD : D.length = d) (hl : k + 3 + d ≤ C.length) {C1 C2 : List Value} (h1 : C1 = C.take (k + 3) ++ D ++ C.drop (k + 3 + d)) (h2 : C2 = C1.take k ++ X ++ C1.drop (k + 3)) :
    C2.take (k + 3 + d) = P ++ X ++ D ∧ C2.length = C.length ∧ C1.length = C.length := by
  have e1 : C1.take k = P := by
    rw [h1, List.append_assoc, List.take_append_of_le_length (by simp; omega), List.take_take, Nat.min_eq_left (by omega)]
    exact hP
  have e2 : C1.drop (k + 3) = D ++ C.drop (k + 3 + d) := by
    rw [h1, List.append_assoc]
    have : (C.take (k + 3)).length = k + 3 := by simp; omega
    rw [List.drop_append, this, Nat.sub_self, List.drop_zero, List.drop_of_length_le (by omega), List.nil_append]
  have e3 : P.length = k := by rw [← hP]; simp; omega
  have l1 : C1.length = C.length := by rw [h1]; simp; omega
  refine ⟨?_, ?_, l1⟩
  · rw [h2, e1, e2, ← List.append_assoc]
    have : (P ++ X ++ D).length = k + 3 + d := by simp; omega
    rw [← this, List.take_left]
  · rw [h2, e1, e2]; simp; omega
/-- In a new row: X is laid behind what stood ahead, then what stood from k on. -/
theorem ins_new {R D X P : List Value} {k d : Nat} (hP : R.take k = P) (hX : X.length = 3) (hD : D.length = d) (hl : k + 3 + d ≤ R.length) {C1 C2 : List Value} (h1 : C1 = R.take k ++ X ++ R.drop (k + 3)) (h2 : C2 = C1.take (k + 3) ++ D ++ C1.drop (k + 3 + d)) :
    C2.take (k + 3 + d) = P ++ X ++ D ∧ C2.length = R.length ∧ C1.length = R.length := by
  have e3 : P.length = k := by rw [← hP]; simp; omega
  have l1 : C1.length = R.length := by rw [h1]; simp; omega
  have e1 : C1.take (k + 3) = P ++ X := by
    have : (P ++ X).length = k + 3 := by simp; omega
    rw [h1, hP, ← this, List.take_left]
  refine ⟨?_, ?_, l1⟩
  · rw [h2, e1]
    have : (P ++ X ++ D).length = k + 3 + d := by simp; omega
    rw [← this, List.take_left]
  · rw [h2]; simp; omega
/-- What Insert hands back. -/
def InsPost (w : World) (B : Nat) (v : Value) (L : List OC) (K : Nat) (x : OC) (e : Ending) (w' : World) : Prop :=
  ∃ v', e = .returned v' ∧ w'.ownsRow B 32 3 v' (L.length + 1) (ocCells (L.take K ++ x :: L.drop K)) ∧ w.grownBy w' v.ownBlock ∧ ∀ k, v'.ownBlock = some k → v.ownBlock = some k ∨ w.heap.size ≤ k

theorem vb_cells {w : World} {vb : Nat} {x : OC} (hvb : w.heap[vb]? = some (.cells #[.int .i64 x.o.fr, .int .i64 x.o.tl, .slice x.a x.o.ids.length x.c] 32 (0, 0))) : ∀ j u, x.v[j]? = some u → w.cell? ((⟨vb, 0, none⟩ : Addr).add j) = some u := by
  intro j u hj
  rw [add_plain, oCell hvb, Nat.zero_add]
  match j, hj with
  | 0, hj => simpa [OC.v] using hj
  | 1, hj => simpa [OC.v] using hj
  | 2, hj => simpa [OC.v] using hj

set_option maxHeartbeats 1000000 in
theorem insert_any (B : Nat) (av : Option Addr) (cv : Nat) (L : List OC) (K : Nat) (x : OC) (vb : Nat) (w : World) (hrow : w.ownsRow B 32 3 (.slice av L.length cv) L.length (ocCells L)) (hK : K ≤ L.length) (hL : L.length ≤ 100000) (hB : B ≤ w.heap.size)
    (hvb : w.heap[vb]? = some (.cells #[.int .i64 x.o.fr, .int .i64 x.o.tl, .slice x.a x.o.ids.length x.c] 32 (0, 0))) (hne : ∀ p, av = some p → p.block ≠ vb) :
    Calls Try.prog 26 #[.slice av L.length cv, .int .i64 K, .slice (some ⟨vb, 0, none⟩) 1 1] w (InsPost w B (.slice av L.length cv) L K x) := by
  obtain ⟨i0, hi, hz0, hz1, hz2⟩ := info_occ_parts
  have hvl : vb < w.heap.size := (Array.getElem?_eq_some_iff.1 hvb).1
  have hvc := vb_cells hvb
  obtain ⟨n, hn⟩ : ∃ n, L.length = n := ⟨_, rfl⟩
  have hcv : n ≤ cv := by
    rcases hrow.2 with ⟨e, hn0⟩ | ⟨g, cap2, cur, e, _, _, hnc, _⟩
    · omega
    · cases e; omega
  have Hn : Hid (L.length = n) := hn
  rw [hn] at hK hL hrow ⊢
  by_cases hKn : K = n
  · subst hKn
    have hfin : ∀ v' w', w'.ownsRow B 32 3 v' (K + 1) (ocCells L ++ x.v) → w.grownBy w' (Value.slice av K cv).ownBlock → (∀ k, v'.ownBlock = some k → (Value.slice av K cv).ownBlock = some k ∨ w.heap.size ≤ k) → InsPost w B (.slice av K cv) L K x (.returned v') w' := by
      intro v' w' r1 r2 r3
      refine ⟨v', rfl, ?_, r2, r3⟩
      rw [Hn.out, List.take_of_length_le (by rw [Hn.out]; exact Nat.le_refl _), List.drop_eq_nil_of_le (by rw [Hn.out]; exact Nat.le_refl _), ocCells_snoc]
      exact r1
    clear hn
    by_cases hck : cv = K
    · subst hck
      go_enter Try.func26, Try.ntmps26
      go_wp2_with (at_builtin; refine wpList_append_where rfl _ _ 23 rfl B 32 i0 (.agg #[.int .i64 0, .int .i64 0, .slice none 0 0]) 3 40 Try.underlying23 hi hz0 hz1 hz2 rfl (by decide) (.slice av cv cv) cv (ocCells L) rfl hrow ⟨vb, 0, none⟩ 1 1 x.v rfl rfl hvc (ocv_one x) ?c3 ?c4 hB ?_)
      case c3 => unfold maxLen; omega
      case c4 => omega
      intro v' w' r1 r2 r3
      go_wp2
      go_ret
      exact hfin _ _ r1 r2 r3
    · go_enter Try.func26, Try.ntmps26
      go_wp2_with (at_builtin; refine wpList_append_where rfl _ _ 23 rfl B 32 i0 (.agg #[.int .i64 0, .int .i64 0, .slice none 0 0]) 3 40 Try.underlying23 hi hz0 hz1 hz2 rfl (by decide) (.slice av K cv) K (ocCells L) rfl hrow ⟨vb, 0, none⟩ 1 1 x.v rfl rfl hvc (ocv_one x) ?c3 ?c4 hB ?_)
      case c3 => unfold maxLen; omega
      case c4 => omega
      intro v' w' r1 r2 r3
      go_wp2
      go_ret
      exact hfin _ _ r1 r2 r3
  · have hlt : K < n := by omega
    have hzK : ¬ ((K : Int) = (n : Int)) := by omega
    obtain ⟨g, cur, hg, hge, hcm, hcs, htk, rfl⟩ : ∃ g cur, w.heap[g]? = some (.cells cur 32 (0, 0)) ∧ B ≤ g ∧ cv ≤ maxLen ∧ cur.size = cv * 3 ∧ cur.toList.take (n * 3) = ocCells L ∧ av = some ⟨g, 0, none⟩ := by
      rcases hrow.2 with ⟨e, hn0⟩ | ⟨g, cap2, cur, e, h1, h2, h3, h4, h5, h6⟩
      · omega
      · cases e; exact ⟨_, cur, h2, h1, h4, h5, h6, rfl⟩
    have hsz : ∀ w, (Go.sizeOf 32).run Try.prog w = .ok 3 w := fun w => by simp [sizeOf, typeInfo, hi, hz1]
    have hgl : g < w.heap.size := (Array.getElem?_eq_some_iff.1 hg).1
    have hgv : g ≠ vb := hne _ rfl
    have hDl : (ocCells (L.drop K)).length = (n - K) * 3 := by rw [ocCells_length, List.length_drop, Hn.out]
    have hPt : cur.toList.take (K * 3) = ocCells (L.take K) := by
      have e1 : ocCells L = ocCells (L.take K) ++ ocCells (L.drop K) := by rw [← ocCells_append, List.take_append_drop]
      have e2 : (ocCells (L.take K)).length = K * 3 := by rw [ocCells_length, List.length_take, Hn.out]; omega
      have := congrArg (List.take (K * 3)) htk
      rw [List.take_take, Nat.min_eq_left (by omega), e1, ← e2, List.take_left] at this
      rw [← e2]
      exact this
    have hXl : x.v.length = 3 := rfl
    have hxs : ocCells (L.take K ++ x :: L.drop K) = ocCells (L.take K) ++ x.v ++ ocCells (L.drop K) := by
      rw [ocCells_append, show ocCells (x :: L.drop K) = x.v ++ ocCells (L.drop K) by simp [ocCells], List.append_assoc]
    have hxl : (ocCells (L.take K ++ x :: L.drop K)).length = (n + 1) * 3 := by
      rw [ocCells_length]; simp [Hn.out]; omega
    have hsrcD : ∀ (W : World), W.heap[g]? = some (.cells cur 32 (0, 0)) → ∀ j u, (ocCells (L.drop K))[j]? = some u → W.cell? ((⟨g, K * 3, none⟩ : Addr).add j) = some u := by
      intro W hW j u hj
      rw [← ocCells_drop, List.getElem?_drop, ← htk] at hj
      have hjl : K * 3 + j < n * 3 := by
        have := (List.getElem?_eq_some_iff.1 hj).1
        rw [List.length_take] at this
        omega
      rw [List.getElem?_take, if_pos hjl, Array.getElem?_toList] at hj
      rw [add_plain, oCell hW]
      exact hj
    have hzKn : ((K : Int) == (n : Int)) = false := by simpa using hzK
    by_cases hroom : n + 1 ≤ cv
    · have hov : ∀ lb cb, (callFunc 46 #[.slice (some ⟨vb, 0, none⟩) 1 1, .slice (some ⟨g, (K + 1) * 3, none⟩) lb cb]).run Try.prog w = .ok (.value (.bool false)) w := fun lb cb => by
        rw [run_callFunc_extern Try.func46 (by kernel_rfl) (by kernel_rfl) (by kernel_rfl) (e := Extern.SlicesOverlaps.overlaps #[23, 23] #[4]) (by kernel_rfl),
          Lib.run_overlaps_apart w 23 4 32 Try.underlying23 3 hsz ⟨vb, 0, none⟩ ⟨g, (K + 1) * 3, none⟩ 1 1 lb cb (fun e => hgv e.symm) 32 32 3 cur.size (by simp [World.shape?, hvb]) (by simp [World.shape?, hg]) (by rw [hcs]; omega) (by simp [World.frozen?, hvb]) (by simp [World.frozen?, hvb])]
        rfl
      obtain ⟨C1, hC1⟩ : ∃ C1 : List Value, C1 = cur.toList.take (K * 3 + 3) ++ ocCells (L.drop K) ++ cur.toList.drop (K * 3 + 3 + (n - K) * 3) := ⟨_, rfl⟩
      obtain ⟨C2, hC2⟩ : ∃ C2 : List Value, C2 = C1.take (K * 3) ++ x.v ++ C1.drop (K * 3 + 3) := ⟨_, rfl⟩
      obtain ⟨p1, p2, p3⟩ := ins_place hPt hXl hDl (by rw [Array.length_toList, hcs]; omega) hC1 hC2
      have hcp1 : ∀ ty dc sc, (Builtin.copy_ #[23, 23] ty #[.slice (some ⟨g, (K + 1) * 3, none⟩) (n - K) dc, .slice (some ⟨g, K * 3, none⟩) (n + 1 - K) sc]).run Try.prog w.drew = .ok (goInt (Nat.min (n + 1 - K) (n - K))) (w.drew.setRow g C1.toArray) := fun ty dc sc => by
        have := copy_row3 (P := Try.prog) w.drew 23 23 ty 32 i0 g ((K + 1) * 3) (n - K) dc ⟨g, K * 3, none⟩ (n + 1 - K) sc cur 32 (ocCells (L.drop K)) Try.underlying23 hi hz1 hg (by rw [hDl]; show _ = min (n + 1 - K) (n - K) * 3; rw [Nat.min_eq_right (by omega)]) (hsrcD w.drew hg) (by rw [hDl, hcs]; omega) (ocCells_one _)
        rw [this, hC1, hDl, show (K + 1) * 3 = K * 3 + 3 by omega]
      have hg1 : (w.drew.setRow g C1.toArray).heap[g]? = some (.cells C1.toArray 32 (0, 0)) := setRow_heap w.drew g cur _ _ _ hg
      have hv1 : (w.drew.setRow g C1.toArray).heap[vb]? = w.heap[vb]? := setRow_other w.drew g vb _ (fun e => hgv e.symm)
      have hcp2 : ∀ (W : World), W.heap[g]? = some (.cells C1.toArray 32 (0, 0)) → W.heap[vb]? = w.heap[vb]? → ∀ ty dc, (Builtin.copy_ #[23, 23] ty #[.slice (some ⟨g, K * 3, none⟩) (n + 1 - K) dc, .slice (some ⟨vb, 0, none⟩) 1 1]).run Try.prog W = .ok (goInt (Nat.min 1 (n + 1 - K))) (W.setRow g C2.toArray) := fun W hWg hWv ty dc => by
        have := copy_row3 (P := Try.prog) W 23 23 ty 32 i0 g (K * 3) (n + 1 - K) dc ⟨vb, 0, none⟩ 1 1 C1.toArray 32 x.v Try.underlying23 hi hz1 hWg (by rw [hXl]; show 3 = min 1 (n + 1 - K) * 3; rw [Nat.min_eq_left (by omega)]) (vb_cells (hWv.trans hvb)) (by rw [hXl, List.size_toArray, p3, Array.length_toList, hcs]; omega) (ocv_one x)
        rw [this, hC2, hXl]
      obtain ⟨W1, hW1⟩ : ∃ W1, w.drew.setRow g C1.toArray = W1 := ⟨_, rfl⟩
      rw [hW1] at hcp1 hg1 hv1
      have hw1 : IntKind.i64.wrap ((K : Int) + 1) = (K : Int) + 1 := by rw [IntKind.wrap_i64]; omega
      have hb1 : (0 : Int) ≤ (K : Int) + 1 := by omega
      have hbn : (K : Int) ≤ (n : Int) := by omega
      have hbn1 : (K : Int) ≤ (n : Int) + 1 := by omega
      have htn : ((K : Int) + 1).toNat = K + 1 := by omega
      have hKcv : ¬ (cv = K) := by omega
      have hKcv1 : ¬ (cv = K + 1) := by omega
      clear hC1 hC2
      go_enter Try.func26, Try.ntmps26
      go_wp2_with (simp only [hov])
      go_region_law (refine step_copy_run rfl _ _ 23 23 rfl _ _ (by simp [Act.eval, Act.put]) (by simp [Act.eval, Act.put]) (hcp1 _ _ _) ?_)
      go_wp2_with (at_builtin; refine wpList_copy_run rfl _ _ 23 23 rfl _ _ rfl rfl (hcp2 _ hg1 hv1 _ _) ?_)
      go_ret
      refine ⟨_, rfl, ?_, ?_, ?_⟩
      · rw [Hn.out]
        refine ⟨hxl, .inr ⟨g, cv, C2.toArray, rfl, hge, setRow_heap W1 g _ _ _ _ hg1, hroom, hcm, by rw [List.size_toArray, p2, Array.length_toList, hcs], ?_⟩⟩
        rw [hxs, ← p1, show (n + 1) * 3 = K * 3 + 3 + (n - K) * 3 by omega]
      · rw [← hW1]
        refine ⟨rfl, rfl, rfl, by simp, fun k hk hkg => ?_⟩
        have hkg' : k ≠ g := fun e => hkg (by rw [e]; rfl)
        rw [setRow_other _ g k _ hkg', setRow_other _ g k _ hkg']
        rfl
      · intro k hk
        exact .inl hk
    · have hz3 : (cv : Int) < (n : Int) + 1 := by omega
      obtain ⟨z, hzz⟩ : ∃ z : Value, (Value.agg #[.int .i64 0, .int .i64 0, .slice none 0 0]) = z := ⟨_, rfl⟩
      have hzc : z.cells = #[.int .i64 0, .int .i64 0, .slice none 0 0] := by rw [← hzz]; rfl
      have hkk : (n : Int) + 1 - (K : Int) = ((n + 1 - K : Nat) : Int) := by omega
      have hik : K + (n + 1 - K) = n + 1 := by omega
      have hPl : (ocCells (L.take K)).length = K * 3 := by rw [ocCells_length, List.length_take, Hn.out]; omega
      have hold : (Builtin.firstCells i0.size K (.slice (some ⟨g, 0, none⟩) K cv)).run Try.prog w.drew = .ok (ocCells (L.take K)).toArray w.drew := by
        rw [hz1]
        refine run_firstCells_some w.drew 3 K ⟨g, 0, none⟩ K cv (ocCells (L.take K)) hPl (fun j v hj => ?_)
        have hjl : j < K * 3 := by have := (List.getElem?_eq_some_iff.1 hj).1; omega
        rw [← hPt, List.getElem?_take, if_pos hjl, Array.getElem?_toList] at hj
        rw [add_plain, oCell (w := w.drew) hg, Nat.zero_add]
        exact hj
      rw [hzz] at hz0
      obtain ⟨G, hG⟩ : ∃ G, G = grownCap w (n + 1) cv 32 := ⟨_, rfl⟩
      obtain ⟨ROW, hROW⟩ : ∃ ROW : Array Value, ROW = (ocCells (L.take K)).toArray ++ Builtin.zeroCells z.cells (n + 1 - K) ++ Builtin.zeroCells z.cells (G - (n + 1)) := ⟨_, rfl⟩
      have hGn : n + 1 ≤ G := by rw [hG]; exact grownCap_ge w _ _ _
      have hGm : G ≤ maxLen := by rw [hG]; exact grownCap_le_maxLen w (n + 1) cv _ (by unfold maxLen; omega)
      have hrz : ∀ ty, (Builtin.append_ #[23, 3] ty #[.slice (some ⟨g, 0, none⟩) K cv, .int .i64 ((n : Int) + 1 - (K : Int))]).run Try.prog w = .ok (.slice (some ⟨w.heap.size, 0, none⟩) (n + 1) G) (w.drew.alloc (.cells ROW 32)) := fun ty => by
        have h := Lib.run_append_grow_zeros w 23 3 ty 32 i0 z .i64 .i64 Try.underlying23 Try.underlying3 hi hz0 (some ⟨g, 0, none⟩) K cv (ocCells (L.take K)) hold (n + 1 - K) (by omega) (by omega) (by omega) (by omega) (by rw [hz2]; omega) (by rw [hz2, hik]; exact growslice_fits (by omega) (by omega))
        rw [hik] at h
        rw [hkk, hROW, hG]
        exact h
      have hRs : ROW.size = G * 3 := by
        rw [hROW]
        simp [Builtin.zeroCells, hzc, hPl]
        omega
      have hRt : ROW.toList.take (K * 3) = ocCells (L.take K) := by
        rw [hROW]
        simp only [Array.toList_append, List.append_assoc]
        rw [← hPl, List.take_left]
      obtain ⟨C1, hC1⟩ : ∃ C1 : List Value, C1 = ROW.toList.take (K * 3) ++ x.v ++ ROW.toList.drop (K * 3 + 3) := ⟨_, rfl⟩
      obtain ⟨C2, hC2⟩ : ∃ C2 : List Value, C2 = C1.take (K * 3 + 3) ++ ocCells (L.drop K) ++ C1.drop (K * 3 + 3 + (n - K) * 3) := ⟨_, rfl⟩
      obtain ⟨p1, p2, p3⟩ := ins_new hRt hXl hDl (by rw [Array.length_toList, hRs]; omega) hC1 hC2
      have hcpA : ∀ (W : World), W.heap[w.heap.size]? = some (.cells ROW 32 (0, 0)) → W.heap[vb]? = w.heap[vb]? → ∀ ty dc, (Builtin.copy_ #[23, 23] ty #[.slice (some ⟨w.heap.size, K * 3, none⟩) (n + 1 - K) dc, .slice (some ⟨vb, 0, none⟩) 1 1]).run Try.prog W = .ok (goInt (Nat.min 1 (n + 1 - K))) (W.setRow w.heap.size C1.toArray) := fun W hWg hWv ty dc => by
        have := copy_row3 (P := Try.prog) W 23 23 ty 32 i0 w.heap.size (K * 3) (n + 1 - K) dc ⟨vb, 0, none⟩ 1 1 ROW 32 x.v Try.underlying23 hi hz1 hWg (by rw [hXl]; show 3 = min 1 (n + 1 - K) * 3; rw [Nat.min_eq_left (by omega)]) (vb_cells (hWv.trans hvb)) (by rw [hXl, hRs]; omega) (ocv_one x)
        rw [this, hC1, hXl]
      have hcpB : ∀ (W : World), W.heap[w.heap.size]? = some (.cells C1.toArray 32 (0, 0)) → W.heap[g]? = some (.cells cur 32 (0, 0)) → ∀ ty dc sc, (Builtin.copy_ #[23, 23] ty #[.slice (some ⟨w.heap.size, (K + 1) * 3, none⟩) (n - K) dc, .slice (some ⟨g, K * 3, none⟩) (n - K) sc]).run Try.prog W = .ok (goInt (Nat.min (n - K) (n - K))) (W.setRow w.heap.size C2.toArray) := fun W hWg hWv ty dc sc => by
        have := copy_row3 (P := Try.prog) W 23 23 ty 32 i0 w.heap.size ((K + 1) * 3) (n - K) dc ⟨g, K * 3, none⟩ (n - K) sc C1.toArray 32 (ocCells (L.drop K)) Try.underlying23 hi hz1 hWg (by rw [hDl]; show _ = min (n - K) (n - K) * 3; rw [Nat.min_self]) (hsrcD W hWv) (by rw [hDl, List.size_toArray, p3, Array.length_toList, hRs]; omega) (ocCells_one _)
        rw [this, hC2, hDl, show (K + 1) * 3 = K * 3 + 3 by omega]
      have hw1 : IntKind.i64.wrap ((K : Int) + 1) = (K : Int) + 1 := by rw [IntKind.wrap_i64]; omega
      have hb1 : (0 : Int) ≤ (K : Int) + 1 := by omega
      have hbn : (K : Int) ≤ (n : Int) := by omega
      have hbn1 : (K : Int) ≤ (n : Int) + 1 := by omega
      have htn : ((K : Int) + 1).toNat = K + 1 := by omega
      have hKcv : ¬ (cv = K) := by omega
      have hGK : ¬ (G = K) := by omega
      have hGK1 : ¬ (G = K + 1) := by omega
      have hKn' : K ≤ n := hK
      have hvA : (w.alloc (.cells ROW 32)).drew.heap[vb]? = w.heap[vb]? := Below.heap_alloc w (.cells ROW 32) vb hvl
      have hgA : (w.alloc (.cells ROW 32)).drew.heap[g]? = w.heap[g]? := Below.heap_alloc w (.cells ROW 32) g hgl
      have hnA : (w.alloc (.cells ROW 32)).drew.heap[w.heap.size]? = some (.cells ROW 32 (0, 0)) := heap_alloc_new w _
      have hsA : (w.alloc (.cells ROW 32)).drew.heap.size = w.heap.size + 1 := by show (w.alloc (.cells ROW 32)).heap.size = _; simp
      have hcpA' := hcpA _ hnA hvA
      have bA : Below w.heap.size w (w.alloc (.cells ROW 32)).drew := (oBelow_new w (.cells ROW 32)).drew
      obtain ⟨W0, hW0⟩ : ∃ W0, (w.alloc (.cells ROW 32)).drew = W0 := ⟨_, rfl⟩
      rw [hW0] at hcpA' hnA hgA hsA bA
      have hg1 : (W0.setRow w.heap.size C1.toArray).heap[w.heap.size]? = some (.cells C1.toArray 32 (0, 0)) := setRow_heap W0 w.heap.size ROW _ _ _ hnA
      have hv1 : (W0.setRow w.heap.size C1.toArray).heap[g]? = some (.cells cur 32 (0, 0)) := (setRow_other W0 w.heap.size g _ (by omega)).trans (hgA.trans hg)
      have b1 : Below w.heap.size w (W0.setRow w.heap.size C1.toArray) := bA.trans ⟨rfl, rfl, rfl, by simp, fun k hk => setRow_other W0 w.heap.size k _ (by omega)⟩
      have s1 : (W0.setRow w.heap.size C1.toArray).heap.size = w.heap.size + 1 := by rw [← hsA]; simp
      obtain ⟨W1, hW1⟩ : ∃ W1, W0.setRow w.heap.size C1.toArray = W1 := ⟨_, rfl⟩
      rw [hW1] at hcpA' hg1 hv1 b1 s1
      have hcpB' := hcpB W1.drew hg1 hv1
      clear hkk hik hold hROW hG hC1 hC2
      go_enter Try.func26, Try.ntmps26
      go_wp2_with (first
        | (at_builtin; refine wpList_build_run rfl _ _ 23 3 rfl _ _ rfl rfl (hrz _) ?_)
        | (at_builtin; refine wpList_copy_run rfl _ _ 23 23 rfl _ _ rfl rfl (hcpA' _ _) ?_))
      go_region_law (refine step_copy_run rfl _ _ 23 23 rfl _ _ (by simp [Act.eval, Act.put]) (by simp [Act.eval, Act.put]) (hcpB' _ _ _) ?_)
      go_wp2
      go_ret
      refine ⟨_, rfl, ?_, ?_, ?_⟩
      · rw [Hn.out]
        refine ⟨hxl, .inr ⟨w.heap.size, G, C2.toArray, rfl, hB, setRow_heap W1.drew w.heap.size _ _ _ _ hg1, hGn, hGm, by rw [List.size_toArray, p2, Array.length_toList, hRs], ?_⟩⟩
        rw [hxs, ← p1, show (n + 1) * 3 = K * 3 + 3 + (n - K) * 3 by omega]
      · have b2 : Below w.heap.size w (W1.drew.setRow w.heap.size C2.toArray) := b1.drew.trans ⟨rfl, rfl, rfl, by simp, fun k hk => setRow_other W1.drew w.heap.size k _ (by omega)⟩
        exact ⟨b2.os, b2.tape, b2.output, b2.size, fun k hk _ => b2.block k hk⟩
      · intro k hk
        cases hk
        exact .inr (Nat.le_refl _)
end Go.Proofs.Ytmomoboedoljfaa
