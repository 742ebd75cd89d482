/- Rules in a row of the call's own, as the draws make them: one more is put in, one is turned. -/
import Derived.Test.YtohijenlcfkliaaDoorDrR1
import Derived.Test.YtohijenlcfkliaaDoorRuL
namespace Go.Proofs.YtohijenlcfkliaaDoor
open Go.ChangeShapes Go.WideShapes Go.ChangeAt Go.RowKit Go.Deep
set_option linter.unusedVariables false
set_option maxRecDepth 4000

/-- A rule, and where the parts of what is looked for lie. -/
structure RH where
  x : Ru
  a : Option Addr
  c : Nat
def RH.v (y : RH) : List Value := [.string y.x.nm, .int .i64 y.x.pri, .int .i64 y.x.mode, .int .i64 y.x.kd, .int .i64 y.x.sy, .int .i64 y.x.n, .slice y.a y.x.ks.len y.c, .int .i64 y.x.lo, .int .i64 y.x.hi, .int .i64 y.x.key, .int .i64 y.x.add, .int .i64 y.x.ra]
theorem RH.v_len (y : RH) : y.v.length = 12 := rfl
def rhCells (q : List RH) : List Value := q.flatMap RH.v
theorem rhCells_cons (y : RH) (q : List RH) : rhCells (y :: q) = y.v ++ rhCells q := rfl
theorem rhCells_length : ∀ q : List RH, (rhCells q).length = q.length * 12
  | [] => rfl
  | y :: q => by rw [rhCells_cons, List.length_append, y.v_len, rhCells_length q, List.length_cons]; omega
theorem rhCells_snoc (q : List RH) (y : RH) : rhCells (q ++ [y]) = rhCells q ++ y.v := by simp [rhCells]
theorem rhCells_get : ∀ (q : List RH) (i : Nat) (h : i < q.length) (j : Nat) (v : Value), (q[i].v)[j]? = some v → (rhCells q)[i * 12 + j]? = some v
  | y :: q, 0, _, j, v, hv => by
    have hj : j < y.v.length := (List.getElem?_eq_some_iff.1 hv).1
    rw [rhCells_cons, Nat.zero_mul, Nat.zero_add, List.getElem?_append_left hj]
    exact hv
  | y :: q, i + 1, h, j, v, hv => by
    rw [rhCells_cons, List.getElem?_append_right (by rw [y.v_len]; omega), y.v_len, show (i + 1) * 12 + j - 12 = i * 12 + j by omega]
    exact rhCells_get q i (by simpa using h) j v hv
theorem rhCells_set : ∀ (q : List RH) (i : Nat) (h : i < q.length) (j : Nat) (v : Value) (y : RH), j < 12 → y.v = (q[i].v).set j v → (rhCells q).set (i * 12 + j) v = rhCells (q.set i y)
  | z :: q, 0, _, j, v, y, hj, hy => by
    have hy : y.v = z.v.set j v := hy
    show (z.v ++ rhCells q).set (0 * 12 + j) v = y.v ++ rhCells q
    rw [Nat.zero_mul, Nat.zero_add, List.set_append, if_pos (by rw [z.v_len]; omega), hy]
  | z :: q, i + 1, h, j, v, y, hj, hy => by
    show (z.v ++ rhCells q).set ((i + 1) * 12 + j) v = z.v ++ rhCells (q.set i y)
    rw [List.set_append, if_neg (by rw [z.v_len]; omega), z.v_len, show (i + 1) * 12 + j - 12 = i * 12 + j by omega, rhCells_set q i (by simpa using h) j v y hj hy]
/-- The parts of each lie in rows of the call's own, aside from the row itself. -/
def RHs (w : World) (B : Nat) (v : Value) (q : List RH) : Prop := ∀ y ∈ q, y.x.ks.len ≤ maxLen ∧ y.x.nm.size ≤ maxLen ∧ ∃ T, OwnAt w y.a T y.x.ks ∧ ∀ b ∈ T, B ≤ b ∧ b < w.heap.size ∧ some b ≠ v.ownBlock
structure RuOwn (w : World) (B : Nat) (v : Value) (q : List RH) : Prop where
  row : w.ownsRow B 36 12 v q.length (rhCells q)
  kids : RHs w B v q
theorem rd_turn {w w' : World} {B : Nat} {e : TypeId} {z : Nat} {v : Value} {n : Nat} {xs : List Value} (h : w.ownsRow B e z v n xs) (hk : ∀ k, v.ownBlock = some k → w'.heap[k]? = w.heap[k]?) : w'.ownsRow B e z v n xs := by
  obtain ⟨h1, h2⟩ := h
  refine ⟨h1, ?_⟩
  rcases h2 with h2 | ⟨g, cap, cur, hv, hg, hh, r⟩
  · exact Or.inl h2
  · exact Or.inr ⟨g, cap, cur, hv, hg, (hk g (by rw [hv]; rfl)).trans hh, r⟩
theorem RuOwn.keep {w w' : World} {B : Nat} {v : Value} {q : List RH} (h : RuOwn w B v q) (hs : w.heap.size ≤ w'.heap.size) (hk : ∀ b, B ≤ b → b < w.heap.size → w'.heap[b]? = w.heap[b]?) : RuOwn w' B v q :=
  ⟨rd_turn h.row (fun k e => by have := h.row.lt k e; exact hk k this.1 this.2), fun y hy => by
    obtain ⟨h1, h2, T, h3, h4⟩ := h.kids y hy
    exact ⟨h1, h2, T, h3.of_blocks (fun b hb => hk b (h4 b hb).1 (h4 b hb).2.1), fun b hb => ⟨(h4 b hb).1, Nat.lt_of_lt_of_le (h4 b hb).2.1 hs, (h4 b hb).2.2⟩⟩⟩
theorem RuOwn.grown {w w' : World} {B R : Nat} {v : Value} {q : List RH} (h : RuOwn w B v q) (hg : w.grownBy w' (some R)) (hR : R < B) : RuOwn w' B v q :=
  h.keep hg.4 (fun b hb hl => hg.5 b hl (fun e => by have := Option.some.inj e; omega))
theorem RuOwn.below {w w' : World} {B : Nat} {v : Value} {q : List RH} (h : RuOwn w B v q) (hb : Below w.heap.size w w') : RuOwn w' B v q := h.keep hb.size (fun b _ hl => hb.block b hl)
theorem RuOwn.low {w : World} {B B' : Nat} {v : Value} {q : List RH} (h : RuOwn w B v q) (hB : B' ≤ B) : RuOwn w B' v q :=
  ⟨h.row.mono hB, fun y hy => by
    obtain ⟨h1, h2, T, h3, h4⟩ := h.kids y hy
    exact ⟨h1, h2, T, h3, fun b hb => ⟨Nat.le_trans hB (h4 b hb).1, (h4 b hb).2⟩⟩⟩
theorem RuOwn.slice {w : World} {B : Nat} {v : Value} {q : List RH} (h : RuOwn w B v q) : ∃ a cap, v = .slice a q.length cap ∧ q.length ≤ cap ∧ cap ≤ maxLen := by
  rcases h.row.2 with ⟨e, hn⟩ | ⟨g, cap, cur, e, _, _, h1, h2, _⟩
  · exact ⟨none, 0, by rw [hn]; exact e, by omega, by simp⟩
  · exact ⟨_, cap, e, h1, h2⟩
theorem RuOwn.rus {w : World} {B : Nat} {a : Option Addr} {n cap : Nat} {q : List RH} (h : RuOwn w B (.slice a n cap) q) (hq : q.length ≤ maxLen) : Rus w a (q.map (·.x)) := by
  refine ⟨by simpa using hq, fun h0 => ?_⟩
  rcases h.row.2 with ⟨e, hn⟩ | ⟨g, cap', cur, e, hb, hg, hn, hcm, hcs, htk⟩
  · simp at h0; omega
  · simp only [Value.slice.injEq] at e
    obtain ⟨rfl, _, _⟩ := e
    refine ⟨g, 0, rfl, (Array.getElem?_eq_some_iff.1 hg).1, fun i hi => ?_⟩
    have hi' : i < q.length := by simpa using hi
    obtain ⟨h1, h2, T, h3, h4⟩ := h.kids _ (List.getElem_mem hi')
    have hc : ∀ j u, (q[i].v)[j]? = some u → w.cell? ⟨g, 0 + i * 12 + j, none⟩ = some u := fun j u hj => by
      have hjl : j < 12 := by have := (List.getElem?_eq_some_iff.1 hj).1; rwa [q[i].v_len] at this
      have hx := rhCells_get q i hi' j u hj
      rw [← htk, List.getElem?_take, if_pos (by omega), Array.getElem?_toList] at hx
      rw [Nat.zero_add, cell_at hg]
      exact hx
    rw [List.getElem_map]
    exact ⟨q[i].a, q[i].c, ⟨hc 0 _ rfl, hc 1 _ rfl, hc 2 _ rfl, hc 3 _ rfl, hc 4 _ rfl, hc 5 _ rfl, hc 6 _ rfl, hc 7 _ rfl, hc 8 _ rfl, hc 9 _ rfl, hc 10 _ rfl, hc 11 _ rfl⟩, ⟨h3.slc h1, h2⟩⟩
theorem RuOwn.at {w : World} {B : Nat} {a : Option Addr} {n cap : Nat} {q : List RH} (h : RuOwn w B (.slice a n cap) q) {k : Nat} (hk : k < q.length) : ∃ g, a = some ⟨g, 0, none⟩ ∧ g < w.heap.size ∧ Twelve w g (k * 12) q[k].x q[k].a q[k].c := by
  rcases h.row.2 with ⟨e, hn⟩ | ⟨g, cap', cur, e, hb, hg, hn, hcm, hcs, htk⟩
  · omega
  · simp only [Value.slice.injEq] at e
    obtain ⟨rfl, _, _⟩ := e
    have hc : ∀ j u, (q[k].v)[j]? = some u → w.cell? ⟨g, k * 12 + j, none⟩ = some u := fun j u hj => by
      have hjl : j < 12 := by have := (List.getElem?_eq_some_iff.1 hj).1; rwa [q[k].v_len] at this
      have hx := rhCells_get q k hk j u hj
      rw [← htk, List.getElem?_take, if_pos (by omega), Array.getElem?_toList] at hx
      rw [cell_at hg]
      exact hx
    exact ⟨g, rfl, (Array.getElem?_eq_some_iff.1 hg).1, hc 0 _ rfl, hc 1 _ rfl, hc 2 _ rfl, hc 3 _ rfl, hc 4 _ rfl, hc 5 _ rfl, hc 6 _ rfl, hc 7 _ rfl, hc 8 _ rfl, hc 9 _ rfl, hc 10 _ rfl, hc 11 _ rfl⟩
theorem info_rule_parts : ∃ i, Tryd.prog.info? 36 = some i ∧ i.zero = some (.agg zRule) ∧ i.size = 12 ∧ i.bytes = 120 := by
  have hi : (Tryd.prog.info? 36).map (fun i => (i.zero, i.size, i.bytes)) = some (some (.agg zRule), 12, 120) := by kernel_rfl
  cases h : Tryd.prog.info? 36 with
  | none => rw [h] at hi; simp at hi
  | some i =>
    rw [h] at hi
    simp at hi
    exact ⟨i, rfl, hi.1, hi.2.1, hi.2.2⟩
/-- One more rule is put in: what the append does. -/
theorem rul_run {w6 : World} {B : Nat} {u : Value} {q : List RH} (y : RH) (h : RuOwn w6 B u q) (hq : q.length ≤ 100000) (hB : B ≤ w6.heap.size) (hl : y.x.ks.len ≤ maxLen) (hn : y.x.nm.size ≤ maxLen) {T : List Nat} (hT : OwnAt w6 y.a T y.x.ks) (hTb : ∀ b ∈ T, B ≤ b ∧ b < w6.heap.size ∧ some b ≠ u.ownBlock) :
    ∃ w7, w6.alloc (.cells #[.string y.x.nm, .int .i64 y.x.pri, .int .i64 y.x.mode, .int .i64 y.x.kd, .int .i64 y.x.sy, .int .i64 y.x.n, .slice y.a y.x.ks.len y.c, .int .i64 y.x.lo, .int .i64 y.x.hi, .int .i64 y.x.key, .int .i64 y.x.add, .int .i64 y.x.ra] 36) = w7 ∧
      ∃ v8 w8, (Builtin.append_ #[23, 23] 23 #[u, .slice (some ⟨w6.heap.size, 0, none⟩) 1 1]).run Tryd.prog w7 = .ok v8 w8 ∧ RuOwn w8 B v8 (q ++ [y]) ∧ w6.heap.size + 1 = w7.heap.size ∧ w7.grownBy w8 u.ownBlock ∧ (∀ k, v8.ownBlock = some k → u.ownBlock = some k ∨ w7.heap.size ≤ k) := by
  obtain ⟨i0, hinf, hz0, hz1, hz2⟩ := info_rule_parts
  obtain ⟨w7, hw7⟩ : ∃ w7, w6.alloc (.cells #[.string y.x.nm, .int .i64 y.x.pri, .int .i64 y.x.mode, .int .i64 y.x.kd, .int .i64 y.x.sy, .int .i64 y.x.n, .slice y.a y.x.ks.len y.c, .int .i64 y.x.lo, .int .i64 y.x.hi, .int .i64 y.x.key, .int .i64 y.x.add, .int .i64 y.x.ra] 36) = w7 := ⟨_, rfl⟩
  have hb7 : Below w6.heap.size w6 w7 := by rw [← hw7]; exact xBelow_new _ _
  have hn7 : w7.heap[w6.heap.size]? = some (.cells #[.string y.x.nm, .int .i64 y.x.pri, .int .i64 y.x.mode, .int .i64 y.x.kd, .int .i64 y.x.sy, .int .i64 y.x.n, .slice y.a y.x.ks.len y.c, .int .i64 y.x.lo, .int .i64 y.x.hi, .int .i64 y.x.key, .int .i64 y.x.add, .int .i64 y.x.ra] 36 (0, 0)) := by rw [← hw7]; exact heap_alloc_new _ _
  have hs7 : w6.heap.size + 1 = w7.heap.size := by rw [← hw7]; simp
  have h7 := h.below hb7
  obtain ⟨v8, w8, hrun, r1, r2, r3⟩ := append_where (P := Tryd.prog) w7 B 23 23 36 i0 (.agg zRule) 12 120 Tryd.underlying23 hinf hz0 hz1 hz2 rfl (by decide) u q.length (rhCells q) h7.row ⟨w6.heap.size, 0, none⟩ 1 1 y.v rfl
    (by intro j x hj; rw [add_plain, cell_at hn7]; simpa [RH.v] using hj)
    (by intro x hx; simp [RH.v] at hx; rcases hx with rfl | rfl | rfl | rfl | rfl | rfl | rfl | rfl | rfl | rfl | rfl | rfl <;> rfl) (by unfold maxLen; omega) (by omega) (by omega)
  have hs8 := r2.4
  refine ⟨w7, hw7, v8, w8, hrun, ⟨by rw [rhCells_snoc, List.length_append]; exact r1, fun z hz => ?_⟩, hs7, r2, r3⟩
  have key : ∀ (z : RH) (T : List Nat), OwnAt w6 z.a T z.x.ks → (∀ b ∈ T, B ≤ b ∧ b < w6.heap.size ∧ some b ≠ u.ownBlock) → OwnAt w8 z.a T z.x.ks ∧ ∀ b ∈ T, B ≤ b ∧ b < w8.heap.size ∧ some b ≠ v8.ownBlock := fun z T h1 h2 => by
    refine ⟨h1.of_blocks (fun b hb => ?_), fun b hb => ⟨(h2 b hb).1, by have := (h2 b hb).2.1; omega, fun e => ?_⟩⟩
    · have hb' := h2 b hb
      exact (r2.5 b (by omega) hb'.2.2).trans (hb7.block b hb'.2.1)
    · rcases r3 b e.symm with k | k
      · exact (h2 b hb).2.2 k.symm
      · have := (h2 b hb).2.1; omega
  rcases List.mem_append.1 hz with hz | hz
  · obtain ⟨h1, h2, T, h3, h4⟩ := h.kids z hz
    obtain ⟨k1, k2⟩ := key z T h3 h4
    exact ⟨h1, h2, T, k1, k2⟩
  · obtain rfl : z = y := by simpa using hz
    obtain ⟨k1, k2⟩ := key z T hT hTb
    exact ⟨hl, hn, T, k1, k2⟩
/-- A cell of one rule is turned. -/
theorem RuOwn.set {w : World} {B g n cap : Nat} {q : List RH} (h : RuOwn w B (.slice (some ⟨g, 0, none⟩) n cap) q) {i : Nat} (hi : i < q.length) (j : Nat) (hj : j < 12) (v : Value) (y : RH) (hy : y.v = (q[i].v).set j v)
    (hk : y.x.ks.len ≤ maxLen ∧ y.x.nm.size ≤ maxLen ∧ ∃ T, OwnAt w y.a T y.x.ks ∧ ∀ b ∈ T, B ≤ b ∧ b < w.heap.size ∧ b ≠ g) : RuOwn (w.setCell ⟨g, i * 12 + j, none⟩ v) B (.slice (some ⟨g, 0, none⟩) n cap) (q.set i y) := by
  have hoth : ∀ b, b ≠ g → (w.setCell ⟨g, i * 12 + j, none⟩ v).heap[b]? = w.heap[b]? := fun b hb => Below.heap_setCell _ _ _ _ (fun e => hb e)
  have key : ∀ (z : RH) (T : List Nat), OwnAt w z.a T z.x.ks → (∀ b ∈ T, B ≤ b ∧ b < w.heap.size ∧ b ≠ g) → OwnAt (w.setCell ⟨g, i * 12 + j, none⟩ v) z.a T z.x.ks ∧ ∀ b ∈ T, B ≤ b ∧ b < (w.setCell ⟨g, i * 12 + j, none⟩ v).heap.size ∧ some b ≠ (Value.slice (some ⟨g, 0, none⟩) n cap).ownBlock := fun z T h1 h2 =>
    ⟨h1.of_blocks (fun b hb => hoth b (h2 b hb).2.2), fun b hb => ⟨(h2 b hb).1, by simpa using (h2 b hb).2.1, fun e => (h2 b hb).2.2 (Option.some.inj e)⟩⟩
  have h2' := h.row.2
  refine ⟨⟨by rw [List.length_set, rhCells_length, List.length_set], ?_⟩, fun z hz => ?_⟩
  · rcases h2' with ⟨e, hn⟩ | ⟨g', cap', cur, e, hb, hg, hn, hcm, hcs, htk⟩
    · cases e
    · simp only [Value.slice.injEq, Option.some.injEq, Addr.mk.injEq] at e
      obtain ⟨⟨rfl, _, _⟩, rfl, rfl⟩ := e
      refine .inr ⟨g, cap, cur.setIfInBounds (i * 12 + j) v, by rw [List.length_set], hb, heap_setCell_same _ _ _ _ _ _ hg, by rw [List.length_set]; exact hn, hcm, by simp [hcs], ?_⟩
      rw [List.length_set, Array.toList_setIfInBounds, List.take_set, htk]
      exact rhCells_set q i hi j v y hj hy
  · rcases List.mem_or_eq_of_mem_set hz with hz | rfl
    · obtain ⟨h1, h2, T, h3, h4⟩ := h.kids z hz
      obtain ⟨k1, k2⟩ := key z T h3 (fun b hb => ⟨(h4 b hb).1, (h4 b hb).2.1, fun e => (h4 b hb).2.2 (by rw [e]; rfl)⟩)
      exact ⟨h1, h2, T, k1, k2⟩
    · obtain ⟨h1, h2, T, h3, h4⟩ := hk
      obtain ⟨k1, k2⟩ := key z T h3 h4
      exact ⟨h1, h2, T, k1, k2⟩
/-- What is looked for of one rule is turned. -/
theorem RuOwn.set4 {w : World} {B g n cap : Nat} {q : List RH} (h : RuOwn w B (.slice (some ⟨g, 0, none⟩) n cap) q) {i : Nat} (hi : i < q.length) (kd sy nn : Int) (a : Option Addr) (c : Nat) (F : Fo) {S : List Nat} (hO : OwnAt w a S F) (hl : F.len ≤ maxLen) (hS : ∀ b ∈ S, B ≤ b ∧ b < w.heap.size ∧ b ≠ g) :
    RuOwn ((((w.setCell ⟨g, i * 12 + 3, none⟩ (.int .i64 kd)).setCell ⟨g, i * 12 + 4, none⟩ (.int .i64 sy)).setCell ⟨g, i * 12 + 5, none⟩ (.int .i64 nn)).setCell ⟨g, i * 12 + 6, none⟩ (.slice a F.len c)) B (.slice (some ⟨g, 0, none⟩) n cap) (q.set i ⟨{ (q[i]).x with kd := kd, sy := sy, n := nn, ks := F }, a, c⟩) := by
  have hoth : ∀ b, b ≠ g → ((((w.setCell ⟨g, i * 12 + 3, none⟩ (.int .i64 kd)).setCell ⟨g, i * 12 + 4, none⟩ (.int .i64 sy)).setCell ⟨g, i * 12 + 5, none⟩ (.int .i64 nn)).setCell ⟨g, i * 12 + 6, none⟩ (.slice a F.len c)).heap[b]? = w.heap[b]? := fun b hb => by
    rw [Below.heap_setCell _ _ _ _ hb, Below.heap_setCell _ _ _ _ hb, Below.heap_setCell _ _ _ _ hb, Below.heap_setCell _ _ _ _ hb]
  have key : ∀ (z : RH) (T : List Nat), OwnAt w z.a T z.x.ks → (∀ b ∈ T, B ≤ b ∧ b < w.heap.size ∧ b ≠ g) → OwnAt ((((w.setCell ⟨g, i * 12 + 3, none⟩ (.int .i64 kd)).setCell ⟨g, i * 12 + 4, none⟩ (.int .i64 sy)).setCell ⟨g, i * 12 + 5, none⟩ (.int .i64 nn)).setCell ⟨g, i * 12 + 6, none⟩ (.slice a F.len c)) z.a T z.x.ks ∧ ∀ b ∈ T, B ≤ b ∧ b < ((((w.setCell ⟨g, i * 12 + 3, none⟩ (.int .i64 kd)).setCell ⟨g, i * 12 + 4, none⟩ (.int .i64 sy)).setCell ⟨g, i * 12 + 5, none⟩ (.int .i64 nn)).setCell ⟨g, i * 12 + 6, none⟩ (.slice a F.len c)).heap.size ∧ some b ≠ (Value.slice (some ⟨g, 0, none⟩) n cap).ownBlock := fun z T h1 h2 =>
    ⟨h1.of_blocks (fun b hb => hoth b (h2 b hb).2.2), fun b hb => ⟨(h2 b hb).1, by simpa using (h2 b hb).2.1, fun e => (h2 b hb).2.2 (Option.some.inj e)⟩⟩
  have h2' := h.row.2
  refine ⟨⟨by rw [rhCells_length], ?_⟩, fun z hz => ?_⟩
  · rcases h2' with ⟨e, hn⟩ | ⟨g', cap', cur, e, hb, hg, hn, hcm, hcs, htk⟩
    · cases e
    · simp only [Value.slice.injEq, Option.some.injEq, Addr.mk.injEq] at e
      obtain ⟨⟨rfl, _, _⟩, rfl, rfl⟩ := e
      have k1 := heap_setCell_same _ _ (i * 12 + 3) _ _ (.int .i64 kd) hg
      have k2 := heap_setCell_same _ _ (i * 12 + 4) _ _ (.int .i64 sy) k1
      have k3 := heap_setCell_same _ _ (i * 12 + 5) _ _ (.int .i64 nn) k2
      have k4 := heap_setCell_same _ _ (i * 12 + 6) _ _ (.slice a F.len c) k3
      refine .inr ⟨g, cap, _, by rw [List.length_set], hb, k4, by rw [List.length_set]; exact hn, hcm, by simp [hcs], ?_⟩
      rw [List.length_set, Array.toList_setIfInBounds, Array.toList_setIfInBounds, Array.toList_setIfInBounds, Array.toList_setIfInBounds, List.take_set, List.take_set, List.take_set, List.take_set, htk]
      have e1 := rhCells_set q i hi 3 (.int .i64 kd) ⟨{ (q[i]).x with kd := kd }, q[i].a, q[i].c⟩ (by omega) rfl
      rw [e1]
      have e2 := rhCells_set (q.set i ⟨{ (q[i]).x with kd := kd }, q[i].a, q[i].c⟩) i (by simpa using hi) 4 (.int .i64 sy) ⟨{ (q[i]).x with kd := kd, sy := sy }, q[i].a, q[i].c⟩ (by omega) (by rw [List.getElem_set_self]; rfl)
      rw [e2, List.set_set]
      have e3 := rhCells_set (q.set i ⟨{ (q[i]).x with kd := kd, sy := sy }, q[i].a, q[i].c⟩) i (by simpa using hi) 5 (.int .i64 nn) ⟨{ (q[i]).x with kd := kd, sy := sy, n := nn }, q[i].a, q[i].c⟩ (by omega) (by rw [List.getElem_set_self]; rfl)
      rw [e3, List.set_set]
      have e4 := rhCells_set (q.set i ⟨{ (q[i]).x with kd := kd, sy := sy, n := nn }, q[i].a, q[i].c⟩) i (by simpa using hi) 6 (.slice a F.len c) ⟨{ (q[i]).x with kd := kd, sy := sy, n := nn, ks := F }, a, c⟩ (by omega) (by rw [List.getElem_set_self]; rfl)
      rw [e4, List.set_set]
  · rcases List.mem_or_eq_of_mem_set hz with hz | rfl
    · obtain ⟨h1, h2, T, h3, h4⟩ := h.kids z hz
      obtain ⟨k1, k2⟩ := key z T h3 (fun b hb => ⟨(h4 b hb).1, (h4 b hb).2.1, fun e => (h4 b hb).2.2 (by rw [e]; rfl)⟩)
      exact ⟨h1, h2, T, k1, k2⟩
    · obtain ⟨h1, h2, T, h3, h4⟩ := h.kids _ (List.getElem_mem hi)
      obtain ⟨k1, k2⟩ := key ⟨{ (q[i]).x with kd := kd, sy := sy, n := nn, ks := F }, a, c⟩ S hO hS
      exact ⟨hl, h2, S, k1, k2⟩
theorem rh_cell {w : World} {B g n cap : Nat} {q : List RH} (h : RuOwn w B (.slice (some ⟨g, 0, none⟩) n cap) q) {k : Nat} (hk : k < q.length) (j : Nat) (hj : j < 12) : ∃ y, w.cell? ⟨g, k * 12 + j, none⟩ = some y := by
  rcases h.row.2 with ⟨e, hn⟩ | ⟨g', cap', cur, e, hb, hg, hn, hcm, hcs, htk⟩
  · cases e
  · simp only [Value.slice.injEq, Option.some.injEq, Addr.mk.injEq] at e
    obtain ⟨⟨rfl, _, _⟩, rfl, rfl⟩ := e
    refine ⟨cur[k * 12 + j]'(by rw [hcs]; have := Nat.mul_le_mul_right 12 (show k + 1 ≤ cap by omega); omega), ?_⟩
    rw [cell_at hg]
    exact Array.getElem?_eq_getElem _
theorem rh_free {w : World} {B g n cap : Nat} {q : List RH} (h : RuOwn w B (.slice (some ⟨g, 0, none⟩) n cap) q) : ∀ o, w.frozen? ⟨g, o, none⟩ = false := by
  rcases h.row.2 with ⟨e, hn⟩ | ⟨g', cap', cur, e, hb, hg, hn, hcm, hcs, htk⟩
  · cases e
  · simp only [Value.slice.injEq, Option.some.injEq, Addr.mk.injEq] at e
    obtain ⟨⟨rfl, _, _⟩, rfl, rfl⟩ := e
    intro o
    simp [World.frozen?, hg]
end Go.Proofs.YtohijenlcfkliaaDoor
