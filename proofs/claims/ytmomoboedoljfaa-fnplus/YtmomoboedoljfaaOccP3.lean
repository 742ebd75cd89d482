/- One more put into a list of places of the call's own: the specification's. -/
import Derived.Test.YtmomoboedoljfaaOccP2
namespace Go.Proofs.Ytmomoboedoljfaa
open Go.ChangeShapes Go.WideShapes Go.ChangeAt Go.RowKit
set_option linter.unusedVariables false
set_option maxRecDepth 4000

def oLess (x y : Occ) : Bool := lessB x.fr x.tl x.ids y.fr y.tl y.ids
/-- How many at the beginning come ahead of o. -/
def placeF (o : Occ) : List Occ → Nat
  | [] => 0
  | x :: r => if oLess x o then placeF o r + 1 else 0
theorem placeF_le (o : Occ) : ∀ l : List Occ, placeF o l ≤ l.length
  | [] => by simp [placeF]
  | x :: r => by unfold placeF; have := placeF_le o r; split <;> simp <;> omega
theorem placeF_less (o : Occ) : ∀ (l : List Occ) (k : Nat) (h : k < placeF o l), oLess (l[k]'(Nat.lt_of_lt_of_le h (placeF_le o l))) o = true
  | [], k, h => by simp [placeF] at h
  | x :: r, k, h => by
    by_cases hx : oLess x o = true
    · cases k with
      | zero => simpa using hx
      | succ k =>
        have : k < placeF o r := by simp [placeF, hx] at h; exact h
        simpa using placeF_less o r k this
    · simp [placeF, hx] at h
theorem placeF_stop (o : Occ) : ∀ (l : List Occ) (h : placeF o l < l.length), oLess l[placeF o l] o = false
  | [], h => by simp at h
  | x :: r, h => by
    by_cases hx : oLess x o = true
    · have e : placeF o (x :: r) = placeF o r + 1 := by simp [placeF, hx]
      have h' : placeF o r < r.length := by rw [e] at h; simpa using h
      have := placeF_stop o r h'
      simp only [e, List.getElem_cons_succ]
      exact this
    · have e : placeF o (x :: r) = 0 := by simp [placeF, hx]
      simp only [e, List.getElem_cons_zero]
      simpa using hx
/-- Whether o stands at its place. -/
def sameAt (o : Occ) (l : List Occ) : Bool := match l[placeF o l]? with | some x => oEqB x o | none => false
theorem sameAt_in {o : Occ} {l : List Occ} (h : placeF o l < l.length) : sameAt o l = oEqB l[placeF o l] o := by simp [sameAt, h]
theorem sameAt_out {o : Occ} {l : List Occ} (h : ¬ placeF o l < l.length) : sameAt o l = false := by simp [sameAt, List.getElem?_eq_none (by omega : l.length ≤ placeF o l)]
/-- The list, in order, with o, if it is not there. -/
def putF (o : Occ) (l : List Occ) : List Occ := if sameAt o l then l else l.take (placeF o l) ++ o :: l.drop (placeF o l)

theorem ocCells_one (L : List OC) : ∀ u ∈ ocCells L, u.oneCell' = true := by
  intro u hu
  simp only [ocCells, List.mem_flatMap] at hu
  obtain ⟨x, _, hx⟩ := hu
  exact ocv_one x u hx
theorem ocCells_drop (L : List OC) : ∀ K, (ocCells L).drop (K * 3) = ocCells (L.drop K) := by
  induction L with
  | nil => intro K; simp [ocCells]
  | cons x r ih =>
    intro K
    cases K with
    | zero => simp
    | succ K =>
      have e : ocCells (x :: r) = x.v ++ ocCells r := by simp [ocCells]
      rw [e, List.drop_succ_cons, ← ih K, List.drop_append]
      have e3 : x.v.length = 3 := rfl
      rw [e3, List.drop_of_length_le (by rw [e3]; omega), List.nil_append]
      congr 1
      omega
/-- The cells of a row of the call's own, from place K on. -/
theorem row_cells {w : World} {B b n cv : Nat} {t : TypeId} {L : List OC} (h : w.ownsRow B t 3 (.slice (some ⟨b, 0, none⟩) n cv) L.length (ocCells L)) (K : Nat) (hK : K ≤ L.length) :
    ∀ j u, (ocCells (L.drop K))[j]? = some u → w.cell? ((⟨b, K * 3, none⟩ : Addr).add j) = some u := by
  rcases h.2 with ⟨e, _⟩ | ⟨g, cap, cur, e, hb, hg, hnc, hcm, hcs, htk⟩
  · cases e
  · cases e
    intro j u hj
    rw [← ocCells_drop, List.getElem?_drop, ← htk] at hj
    have hjl : K * 3 + j < L.length * 3 := by
      have := (List.getElem?_eq_some_iff.1 hj).1
      rw [List.length_take] at this
      omega
    rw [List.getElem?_take, if_pos hjl, Array.getElem?_toList] at hj
    rw [add_plain, oCell hg]
    exact hj

section
variable {P : Program} {w : World}
/-- An append to a row of the call's own, as a walk meets it: where the new row lies. -/
theorem wpList_append_where {ops : Array Oper} {rest : List Oper} {o : Oper} {a : Act} {Q : Exit → Act → World → Prop} (hgd : o.guard = none) (s x : Operand) (t : TypeId)
    (ho : o.op = .call { callee := .builtin .append, args := #[s, x], argTypes := #[t, t] })
    (base : Nat) (e : TypeId) (i : TypeInfo) (z : Value) (size bytes : Nat) (ht : P.underlying t = some (.slice e)) (hi : P.info? e = some i) (hz : i.zero = some z)
    (hsize : i.size = size) (hby : i.bytes = bytes) (hzs : z.cells.size = size) (hsz : 0 < size)
    (v : Value) (n : Nat) (xs : List Value) (hs : a.eval s = v) (hown : w.ownsRow base e size v n xs)
    (ad : Addr) (m c : Nat) (news : List Value) (hx : a.eval x = .slice (some ad) m c) (hl : news.length = m * size) (hnews : ∀ j u, news[j]? = some u → w.cell? (ad.add j) = some u) (h1 : ∀ u ∈ news, u.oneCell' = true)
    (h63 : n + m ≤ maxLen) (hbytes : (n + m) * bytes ≤ 140737488355328) (hbase : base ≤ w.heap.size)
    (h : ∀ v' w', w'.ownsRow base e size v' (n + m) (xs ++ news) → w.grownBy w' v.ownBlock → (∀ k, v'.ownBlock = some k → v.ownBlock = some k ∨ w.heap.size ≤ k) → wpList P ops Q rest (a.put o.dst v') w') : wpList P ops Q (o :: rest) a w := by
  obtain ⟨v', w', hr, r1, r2, r3⟩ := oAppend_where (P := P) w base t o.type e i z size bytes ht hi hz hsize hby hzs hsz v n xs hown ad m c news hl hnews h1 h63 hbytes hbase
  refine wpList_plain hgd fun _ hK => ?_
  unfold Oper.wp execOp
  simp only [ho, resolve, invoke, builtin, Sem.run_bind, Sem.run_pure, Result.andThen_ok, List.map_toArray, List.map_cons, List.map_nil, hs, hx, hr]
  exact hK _ _ (h v' w' r1 r2 r3)
/-- The same as one step of a region that draws, its run being known. -/
theorem step_append_run {ops : Array Oper} {o : Oper} {a : Act} {w : World} {K : Act → World → Prop} {Q : Exit → Act → World → Prop} {E : Prop} (hg : o.guard = none) (s x : Operand) (t : TypeId)
    (hop : o.op = Op.call { callee := Callee.builtin Builtin.append, args := #[s, x], argTypes := #[t, t] }) (vs vx : Value) (hs : a.eval s = vs) (hx : a.eval x = vx) {v' : Value} {w' : World}
    (hrun : (Builtin.append_ #[t, t] o.type #[vs, vx]).run P w = .ok v' w') (hK : K (a.put o.dst v') w') : if Region.wanted o (yielded ops a.tmps) = true then Oper.wp P o a w K Q else E := by
  have hw : Region.wanted o (yielded ops a.tmps) = true := by simp [Region.wanted, hg]
  rw [if_pos hw]
  unfold Oper.wp
  simp [execOp, hop, resolve, invoke, builtin, hs, hx, hrun, Result.andThen]
  exact hK
end
/-- The beginning of a row of the call's own is one. -/
theorem ownsRow_take {w : World} {B b n cv : Nat} {t : TypeId} {L : List OC} (h : w.ownsRow B t 3 (.slice (some ⟨b, 0, none⟩) n cv) L.length (ocCells L)) {K : Nat} (hK : K ≤ L.length) :
    w.ownsRow B t 3 (.slice (some ⟨b, 0, none⟩) K cv) K (ocCells (L.take K)) := by
  rcases h.2 with ⟨e, _⟩ | ⟨g, cap, cur, e, hb, hg, hnc, hcm, hcs, htk⟩
  · cases e
  · cases e
    refine ⟨by rw [ocCells_length]; simp [hK], .inr ⟨b, cv, cur, rfl, hb, hg, by omega, hcm, hcs, ?_⟩⟩
    have e1 : ocCells L = ocCells (L.take K) ++ ocCells (L.drop K) := by rw [← ocCells_append, List.take_append_drop]
    have e2 : (ocCells (L.take K)).length = K * 3 := by rw [ocCells_length]; simp [hK]
    have := congrArg (List.take (K * 3)) htk
    rw [List.take_take, Nat.min_eq_left (by omega), e1, ← e2, List.take_left] at this
    rw [← e2]
    exact this
/-- A row whose places can be read. -/
theorem row_occs {w : World} {B : Nat} {a : Option Addr} {n cap : Nat} {L : List OC} (h : w.ownsRow B 32 3 (.slice a n cap) L.length (ocCells L)) (h1 : ∀ x ∈ L, Ints w x.a x.o.ids) : Occs w a (L.map (·.o)) := by
  rcases h.2 with ⟨e, hn⟩ | ⟨g, cap', cur, e, hb, hg, hnc, hcm, hcs, htk⟩
  · obtain rfl : L = [] := List.eq_nil_of_length_eq_zero hn
    exact Occs.nil _ _
  · cases e
    refine ⟨by simp; omega, fun _ => ⟨g, 0, rfl, (Array.getElem?_eq_some_iff.1 hg).1, fun i hi => ?_⟩⟩
    simp only [List.length_map] at hi
    obtain ⟨g1, g2, g3⟩ := ocCells_get L i hi
    rw [← htk, List.getElem?_take, if_pos (by omega), Array.getElem?_toList] at g1 g2 g3
    refine ⟨by rw [oCell hg]; simpa using g1, by rw [oCell hg]; simpa using g2, L[i].a, L[i].c, by rw [oCell hg]; simpa using g3, ?_⟩
    have := h1 L[i] (List.getElem_mem hi)
    simpa using this
end Go.Proofs.Ytmomoboedoljfaa
