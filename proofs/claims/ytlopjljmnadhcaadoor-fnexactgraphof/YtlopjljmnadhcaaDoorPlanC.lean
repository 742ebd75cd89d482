/- The program's plan of parts: a row of parts and a map by texts. -/
import Derived.Test.YtlopjljmnadhcaaDoorPlanA
namespace Go.Proofs.YtlopjljmnadhcaaDoor
open Go.ChangeShapes Go.WideShapes Go.ChangeAt Go.RowKit
set_option linter.unusedVariables false
set_option maxRecDepth 4000

/-- Block H is a map: each text leads to its place. -/
structure MapIs (w : World) (H : Nat) (S : Pl) : Prop where
  ex : ∃ es c, w.heap[H]? = some (.map es c) ∧ es.size = S.length ∧ ∀ i (h : i < S.length), ∃ e, es[i]? = some e ∧ e.key = .string ⟨S[i].1.toArray⟩ ∧ e.val = .int .i64 (i : Int)
theorem MapIs.of {w w' : World} {H : Nat} {S : Pl} (h : MapIs w H S) (e : w'.heap[H]? = w.heap[H]?) : MapIs w' H S := by
  obtain ⟨es, c, h1, h2⟩ := h.ex
  exact ⟨es, c, e.trans h1, h2⟩
theorem MapIs.lt {w : World} {H : Nat} {S : Pl} (h : MapIs w H S) : H < w.heap.size := by
  obtain ⟨es, c, h1, h2⟩ := h.ex
  exact (Array.getElem?_eq_some_iff.1 h1).1
theorem mapIs_new (w : World) : MapIs (w.alloc (.map #[] 0)) w.heap.size [] := ⟨#[], 0, heap_alloc_new w _, rfl, fun i h => by simp at h⟩
theorem MapIs.keys {S : Pl} {es : Array MapEntry} (h2 : es.size = S.length) (h3 : ∀ i (h : i < S.length), ∃ e, es[i]? = some e ∧ e.key = .string ⟨S[i].1.toArray⟩ ∧ e.val = .int .i64 (i : Int)) : ∀ x ∈ es.toList, MapKept.IsKey .string x.key := by
  intro x hx
  obtain ⟨i, hi, rfl⟩ := List.getElem_of_mem hx
  simp at hi
  obtain ⟨e, he, hk, _⟩ := h3 i (by omega)
  rw [Array.getElem?_eq_getElem hi] at he
  cases he
  simp only [Array.getElem_toList]
  rw [hk]
  simp [MapKept.IsKey]
theorem str_inj {l m : List UInt8} (h : Value.string ⟨l.toArray⟩ = Value.string ⟨m.toArray⟩) : l = m := by
  simp only [Value.string.injEq, ByteArray.mk.injEq] at h
  have := congrArg Array.toList h
  simpa using this
theorem find_map {w : World} {H : Nat} {S : Pl} (t : List UInt8) (hn : (S.map (·.1)).Nodup) {es : Array MapEntry} (h2 : es.size = S.length) (h3 : ∀ i (h : i < S.length), ∃ e, es[i]? = some e ∧ e.key = .string ⟨S[i].1.toArray⟩ ∧ e.val = .int .i64 (i : Int)) :
    (idxT t S = none ∧ Instr.findNow .string (.string ⟨t.toArray⟩) es.toList 0 = some none) ∨ ∃ i : Nat, idxT t S = some i ∧ Instr.findNow .string (.string ⟨t.toArray⟩) es.toList 0 = some (some (i, .int .i64 (i : Int))) := by
  rcases MapKept.findNow_spec (d := .string) (k := .string ⟨t.toArray⟩) (by simp [MapKept.IsKey]) es.toList 0 (MapIs.keys h2 h3) with ⟨h4, h5⟩ | ⟨j, e, h4, h5, h6⟩
  · refine .inl ⟨idxT_all fun x hx => ?_, h4⟩
    obtain ⟨i, hi, rfl⟩ := List.getElem_of_mem hx
    obtain ⟨e, he, hk, _⟩ := h3 i hi
    intro ht
    have hm : e ∈ es.toList := by
      have : es.toList[i]? = some e := by simpa using he
      exact List.mem_of_getElem? this
    exact h5 e hm (by rw [hk, ht])
  · have hj : j < S.length := by have := (List.getElem?_eq_some_iff.1 h5).1; simp at this; omega
    obtain ⟨e', he, hk, hv⟩ := h3 j hj
    have e1 : e' = e := by
      have : es.toList[j]? = some e' := by simpa using he
      rw [h5] at this
      exact (Option.some.inj this).symm
    subst e1
    refine .inr ⟨j, idxT_of hj hn (str_inj (by rw [← hk]; exact h6)), ?_⟩
    rw [h4, hv]
    simp

/-- What is asked of the map. -/
theorem lookup_map {w : World} {H : Nat} {S : Pl} (t : List UInt8) (hn : (S.map (·.1)).Nodup) (h : MapIs w H S) :
    (Instr.lookup 52 (.map (some H)) (.string ⟨t.toArray⟩) true).run Tryd.prog w = .ok (match idxT t S with
      | some i => .tuple #[.int .i64 (i : Int), .bool true]
      | none => .tuple #[.int .i64 0, .bool false]) w := by
  obtain ⟨es, c, hb, h2, h3⟩ := h.ex
  have hz : (zeroValue 3).run Tryd.prog w = .ok (.int .i64 0) w := by kernel_rfl
  have hck := fun e => MapKept.run_checkKey (P := Tryd.prog) (w := w) (kt := 9) (d := .string) (k := .string ⟨t.toArray⟩) Tryd.underlying9 (by simp [MapKept.IsKey]) e 9999
  have hg := MapKept.run_getObj_map (P := Tryd.prog) hb
  rcases find_map (w := w) (H := H) t hn h2 h3 with ⟨h4, h5⟩ | ⟨i, h4, h5⟩
  · have hf := MapKept.run_findKey (P := Tryd.prog) (w := w) (kt := 9) (d := .string) Tryd.underlying9 h5
    rw [h4]
    simp [Instr.lookup, run_underlying Tryd.underlying52, hg, hck, hf, hz, Result.andThen]
  · have hf := MapKept.run_findKey (P := Tryd.prog) (w := w) (kt := 9) (d := .string) Tryd.underlying9 h5
    rw [h4]
    simp [Instr.lookup, run_underlying Tryd.underlying52, hg, hck, hf, Result.andThen]
/-- A new text is put in. -/
theorem update_map {w : World} {H : Nat} {S : Pl} {t : List UInt8} (g : GN) (hn : (S.map (·.1)).Nodup) (h : MapIs w H S) (hi : idxT t S = none) :
    ∃ w', (Instr.mapUpdate 52 (.map (some H)) (.string ⟨t.toArray⟩) (.int .i64 (S.length : Int))).run Tryd.prog w = .ok () w' ∧ MapIs w' H (S ++ [(t, g)]) ∧ w.grownBy w' (some H) ∧ w'.heap.size = w.heap.size := by
  obtain ⟨es, c, hb, h2, h3⟩ := h.ex
  have hck := fun e => MapKept.run_checkKey (P := Tryd.prog) (w := w) (kt := 9) (d := .string) (k := .string ⟨t.toArray⟩) Tryd.underlying9 (by simp [MapKept.IsKey]) e 9999
  have hg := MapKept.run_getObj_map (P := Tryd.prog) hb
  rcases find_map (w := w) (H := H) t hn h2 h3 with ⟨h4, h5⟩ | ⟨i, h4, h5⟩
  · have hf := MapKept.run_findKey (P := Tryd.prog) (w := w) (kt := 9) (d := .string) Tryd.underlying9 h5
    have hs := MapKept.run_setObj_map (P := Tryd.prog) (.map (es.push { key := .string ⟨t.toArray⟩, val := .int .i64 (S.length : Int), born := c }) (c + 1)) hb
    obtain ⟨k1, k2⟩ := MapKept.heap_set (o' := .map (es.push { key := .string ⟨t.toArray⟩, val := .int .i64 (S.length : Int), born := c }) (c + 1)) hb
    refine ⟨{ w with heap := w.heap.setIfInBounds H (.map (es.push { key := .string ⟨t.toArray⟩, val := .int .i64 (S.length : Int), born := c }) (c + 1)) }, by simp [Instr.mapUpdate, run_underlying Tryd.underlying52, hg, hck, hf, hs, Result.andThen], ⟨_, _, k1, by simp [h2], fun i hi' => ?_⟩, ⟨rfl, rfl, rfl, by simp, fun b _ hb' => k2 b (fun e => hb' (by rw [e]))⟩, by simp⟩
    simp only [List.length_append, List.length_cons, List.length_nil] at hi'
    by_cases hlt : i < S.length
    · obtain ⟨e, e1, e2, e3⟩ := h3 i hlt
      refine ⟨e, ?_, by rw [e2, List.getElem_append_left hlt], e3⟩
      rw [Array.getElem?_push, if_neg (by omega)]
      exact e1
    · obtain rfl : i = S.length := by omega
      refine ⟨_, by rw [Array.getElem?_push, if_pos (by omega)], by simp, rfl⟩
  · rw [hi] at h4; cases h4

/-- The plan as the program holds it: a box with the row of parts and the map. -/
structure ImSt (w : World) (B PB H : Nat) (v : Value) (L : List GC) (S : Pl) : Prop where
  gs : L.map (·.g) = S.map (·.2)
  own : GcOwn w B v L
  box : GB w PB #[v, .map (some H)]
  map : MapIs w H S
  ap : ∀ b, gcBlk v L b → b ≠ PB ∧ b ≠ H
  ne : PB ≠ H
  ge : B ≤ PB ∧ B ≤ H
theorem ImSt.len {w : World} {B PB H : Nat} {v : Value} {L : List GC} {S : Pl} (h : ImSt w B PB H v L S) : L.length = S.length := by
  have := congrArg List.length h.gs
  simpa using this
theorem ImSt.keep {w w' : World} {B PB H : Nat} {v : Value} {L : List GC} {S : Pl} (h : ImSt w B PB H v L S) (hs : w.heap.size ≤ w'.heap.size) (hk : ∀ b, gcBlk v L b → w'.heap[b]? = w.heap[b]?) (hp : w'.heap[PB]? = w.heap[PB]?) (hm : w'.heap[H]? = w.heap[H]?) : ImSt w' B PB H v L S :=
  ⟨h.gs, h.own.keep hs hk, h.box.of hp, h.map.of hm, h.ap, h.ne, h.ge⟩
theorem ImSt.below {w w' : World} {B PB H : Nat} {v : Value} {L : List GC} {S : Pl} (h : ImSt w B PB H v L S) (hb : Below w.heap.size w w') : ImSt w' B PB H v L S :=
  h.keep hb.size (fun b hx => hb.block b (h.own.blk_lt hx).2) (hb.block _ h.box.lt) (hb.block _ h.map.lt)
def ImX (PB H : Nat) (v : Value) (b : Nat) : Prop := b = PB ∨ b = H ∨ v.ownBlock = some b
def PutPost (w : World) (B PB H : Nat) (v : Value) (L : List GC) (R : Pl × Int) (e : Ending) (w' : World) : Prop :=
  ∃ v' L', e = .returned (.int .i64 R.2) ∧ ImSt w' B PB H v' L' R.1 ∧ Turn (ImX PB H v) w w' ∧ (∀ b, gcBlk v' L' b → gcBlk v L b ∨ w.heap.size ≤ b) ∧ ∀ b, v'.ownBlock = some b → v.ownBlock = some b ∨ w.heap.size ≤ b
/-- Where the rounds over the parts of a part stand. -/
structure PutLoop (w wr : World) (B PB H N : Nat) (kd sy n : Int) (F : Fo) (v : Value) (L : List GC) (S : Pl) (k : Nat) (v' : Value) (L' : List GC) (kv : Value) : Prop where
  hN : GB wr N #[.int .i64 kd, .int .i64 sy, .int .i64 n, kv, .slice none 0 0, .slice none 0 0, .slice none 0 0, .slice none 0 0, .slice none 0 0, .int .i64 0]
  kids : wr.ownsRow (N + 1) 3 1 kv k (intCells (planTo k F S).2)
  st : ImSt wr B PB H v' L' (planTo k F S).1
  kap : ∀ b, kv.ownBlock = some b → ¬ gcBlk v' L' b
  all : ∀ b, gcBlk v' L' b → gcBlk v L b ∨ N < b
  xs : ∀ b, v'.ownBlock = some b → v.ownBlock = some b ∨ N < b
  turn : Turn (ImX PB H v) w wr
theorem PutLoop.safe {w wr : World} {B PB H N : Nat} {kd sy n : Int} {F : Fo} {v : Value} {L : List GC} {S : Pl} {k : Nat} {v' : Value} {L' : List GC} {kv : Value} (hl : PutLoop w wr B PB H N kd sy n F v L S k v' L' kv) (hst : ImSt w B PB H v L S) {b : Nat} (h1 : w.heap.size ≤ b) (h2 : b ≤ N) : ¬ gcBlk v' L' b := by
  intro h3
  rcases hl.all b h3 with h4 | h4
  · have := (hst.own.blk_lt h4).2; omega
  · omega
theorem PutLoop.nx {w wr : World} {B PB H N : Nat} {kd sy n : Int} {F : Fo} {v : Value} {L : List GC} {S : Pl} {k : Nat} {v' : Value} {L' : List GC} {kv : Value} (hl : PutLoop w wr B PB H N kd sy n F v L S k v' L' kv) (hst : ImSt w B PB H v L S) {b : Nat} (h1 : w.heap.size ≤ b) (h2 : b ≤ N) : ¬ ImX PB H v' b := by
  intro h3
  have hp := hst.box.lt
  have hm := hst.map.lt
  rcases h3 with h4 | h4 | h4
  · omega
  · omega
  · exact hl.safe hst h1 h2 (.inl h4)

theorem put_append {w wr wk w5 w7 : World} {B PB H N : Nat} {kd sy n : Int} {F : Fo} {v : Value} {L : List GC} {S : Pl} {k : Nat} {v' : Value} {L' : List GC} {kv : Value} {pl : Int} (hl : PutLoop w wr B PB H N kd sy n F v L S k v' L' kv)
    (hst : ImSt w B PB H v L S) (lN : w.heap.size ≤ N) (hk : k ≤ 100000) (bk : Below wr.heap.size wr wk) (tn5 : Turn (ImX PB H v') wk w5) (h7 : w5.alloc (.cells #[.int .i64 pl] 3) = w7) :
    ∃ v8 w8, (Builtin.append_ #[62, 62] 62 #[kv, .slice (some ⟨w5.heap.size, 0, none⟩) 1 1]).run Tryd.prog w7 = .ok v8 w8 ∧ w8.ownsRow (N + 1) 3 1 v8 (k + 1) (intCells (planTo k F S).2 ++ [.int .i64 pl]) ∧ w7.grownBy w8 kv.ownBlock ∧ ∀ b, v8.ownBlock = some b → kv.ownBlock = some b ∨ w7.heap.size ≤ b := by
  obtain ⟨i0, hi, hz0, hz1, hz2⟩ := info_int_parts
  have hN := hl.hN.lt
  have sk := bk.size
  have s5 := tn5.size
  have hp := hst.box.lt
  have hm := hst.map.lt
  have b7 : Below w5.heap.size w5 w7 := by rw [← h7]; exact gBelow_new _ _
  have k7 : w7.ownsRow (N + 1) 3 1 kv k (intCells (planTo k F S).2) := gOwns_turn hl.kids (fun b hb => by
    have hlt := gOwns_lt hl.kids b hb
    rw [b7.block b (by omega), tn5.same b (by omega) (fun h => ?_), bk.block b hlt.2]
    rcases h with h | h | h
    · omega
    · omega
    · exact hl.kap b hb (.inl h))
  have c7 : w7.heap[w5.heap.size]? = some (.cells #[.int .i64 pl] 3 (0, 0)) := by rw [← h7]; exact heap_alloc_new _ _
  exact append_where (P := Tryd.prog) w7 (N + 1) 62 62 3 i0 (.int .i64 0) 1 8 Tryd.underlying62 hi hz0 hz1 hz2 rfl (by decide) kv k _ k7 ⟨w5.heap.size, 0, none⟩ 1 1 [.int .i64 pl] rfl
    (by intro j x hj; rw [add_plain, cell_at c7]; simpa using hj) (by intro x hx; simp at hx; subst hx; rfl) (by unfold maxLen; omega) (by omega) (by have := b7.size; omega)

/-- Behind a round. -/
theorem put_round {w wr wk w5 w7 w8 w9 : World} {B PB H N : Nat} {kd sy n : Int} {F : Fo} {v : Value} {L : List GC} {S : Pl} {k : Nat} {v' : Value} {L' : List GC} {kv : Value} {kd' sy' n' : Int} {kids : Fo} {v5 : Value} {L5 : List GC} {v8 : Value}
    (hl : PutLoop w wr B PB H N kd sy n F v L S k v' L' kv) (hst : ImSt w B PB H v L S) (lN : w.heap.size ≤ N)
    (hdr : F.drop k = .cons kd' sy' n' kids (F.drop (k + 1))) (bk : Below wr.heap.size wr wk)
    (st5 : ImSt w5 B PB H v5 L5 (planX kd' sy' n' kids (planTo k F S).1).1) (tn5 : Turn (ImX PB H v') wk w5) (all5 : ∀ b, gcBlk v5 L5 b → gcBlk v' L' b ∨ wk.heap.size ≤ b) (xs5 : ∀ b, v5.ownBlock = some b → v'.ownBlock = some b ∨ wk.heap.size ≤ b)
    (b7 : Below w5.heap.size w5 w7)
    (r1 : w8.ownsRow (N + 1) 3 1 v8 (k + 1) (intCells (planTo k F S).2 ++ [.int .i64 (planX kd' sy' n' kids (planTo k F S).1).2])) (r2 : w7.grownBy w8 kv.ownBlock) (r3 : ∀ b, v8.ownBlock = some b → kv.ownBlock = some b ∨ w7.heap.size ≤ b)
    (h9 : w8.setCell ⟨N, 3, none⟩ v8 = w9) : PutLoop w w9 B PB H N kd sy n F v L S (k + 1) v5 L5 v8 := by
  have hnx := planTo_next k F S kd' sy' n' kids hdr
  have hN := hl.hN.lt
  have sk := bk.size
  have s5 := tn5.size
  have s7 := b7.size
  have s8 := r2.size
  have hp := hst.box.lt
  have hm := hst.map.lt
  have kvlt := fun b hb => gOwns_lt hl.kids b hb
  have z9 : w9.heap.size = w8.heap.size := by rw [← h9]; simp
  have o9 : ∀ b, b ≠ N → w9.heap[b]? = w8.heap[b]? := fun b hb => by rw [← h9]; exact Below.heap_setCell _ _ _ _ (fun e => hb e)
  have all9 : ∀ b, b < w5.heap.size → b ≠ N → kv.ownBlock ≠ some b → w9.heap[b]? = w5.heap[b]? := fun b h1 h3 h4 => by
    rw [o9 b h3, r2.block b (by omega) (fun e => h4 e.symm), b7.block b (by omega)]
  have away : ∀ b, gcBlk v5 L5 b → b ≠ N ∧ kv.ownBlock ≠ some b := fun b hb => by
    rcases all5 b hb with h | h
    · exact ⟨fun e => hl.safe hst (by omega) (by omega) h, fun e => hl.kap b e h⟩
    · exact ⟨by omega, fun e => by have := kvlt b e; omega⟩
  have hN8 : GB w8 N #[.int .i64 kd, .int .i64 sy, .int .i64 n, kv, .slice none 0 0, .slice none 0 0, .slice none 0 0, .slice none 0 0, .slice none 0 0, .int .i64 0] := hl.hN.of (by
    rw [r2.block N (by omega) (fun e => by have := kvlt N e.symm; omega), b7.block N (by omega), tn5.same N (by omega) (hl.nx hst lN (Nat.le_refl _)), bk.block N hN])
  refine ⟨by rw [← h9]; exact hN8.set 3 v8, ?_, ?_, ?_, ?_, ?_, ?_⟩
  · rw [hnx]
    have e : intCells ((planTo k F S).2 ++ [(planX kd' sy' n' kids (planTo k F S).1).2]) = intCells (planTo k F S).2 ++ [.int .i64 (planX kd' sy' n' kids (planTo k F S).1).2] := intCells_snoc _ _
    simp only
    rw [e]
    exact gOwns_turn r1 (fun b hb => o9 b (fun e => by have := gOwns_lt r1 b hb; omega))
  · rw [hnx]
    exact st5.keep (by omega) (fun b hb => by obtain ⟨h2, h3⟩ := away b hb; exact all9 b (st5.own.blk_lt hb).2 h2 h3) (all9 PB (by omega) (by omega) (fun e => by have := kvlt PB e; omega)) (all9 H (by omega) (by omega) (fun e => by have := kvlt H e; omega))
  · intro b hb h
    rcases r3 b hb with h1 | h1
    · exact (away b h).2 h1
    · have := (st5.own.blk_lt h).2; omega
  · intro b hb
    rcases all5 b hb with h | h
    · exact hl.all b h
    · exact .inr (by omega)
  · intro b hb
    rcases xs5 b hb with h | h
    · exact hl.xs b h
    · exact .inr (by omega)
  · have sw := hl.turn.size
    refine ⟨?_, ?_, ?_, by omega, fun b hb hx => ?_⟩
    · rw [← h9]; exact (r2.os.trans (b7.os.trans (tn5.os.trans bk.os))).trans hl.turn.os
    · rw [← h9]; exact (r2.tape.trans (b7.tape.trans (tn5.tape.trans bk.tape))).trans hl.turn.tape
    · rw [← h9]; exact (r2.output.trans (b7.output.trans (tn5.output.trans bk.output))).trans hl.turn.output
    · rw [all9 b (by omega) (by omega) (fun e => by have := kvlt b e; omega), tn5.same b (by omega) (fun h => ?_), bk.block b (by omega), hl.turn.same b hb hx]
      rcases h with h | h | h
      · exact hx (.inl h)
      · exact hx (.inr (.inl h))
      · rcases hl.xs b h with h1 | h1
        · exact hx (.inr (.inr h1))
        · omega

/-- At the end: what lies where. -/
theorem put_end {w wr w2 w3 w4 w5 : World} {B PB H N : Nat} {kd sy n : Int} {F : Fo} {v : Value} {L : List GC} {S : Pl} {k : Nat} {v' : Value} {L' : List GC} {kv v4 : Value} {x : GC} {t : List UInt8} {S' : Pl}
    (hl : PutLoop w wr B PB H N kd sy n F v L S k v' L' kv) (hst : ImSt w B PB H v L S) (lN : w.heap.size ≤ N) (hS' : (planTo k F S).1 = S')
    (hxk : ∀ p, x.a = some p → kv.ownBlock = some p.block) (hkl : ∀ b, kv.ownBlock = some b → N < b ∧ b < wr.heap.size)
    (m2 : MapIs w2 H (S' ++ [(t, x.g)])) (g2 : wr.grownBy w2 (some H)) (b3 : Below w2.heap.size w2 w3) (g4 : GcOwn w4 B v4 (L' ++ [x])) (r2 : w3.grownBy w4 v'.ownBlock) (r3 : ∀ b, v4.ownBlock = some b → v'.ownBlock = some b ∨ w3.heap.size ≤ b)
    (h5 : w4.setCell ⟨PB, 0, none⟩ v4 = w5) :
    ImSt w5 B PB H v4 (L' ++ [x]) (S' ++ [(t, x.g)]) ∧ Turn (ImX PB H v) w w5 ∧ (∀ b, gcBlk v4 (L' ++ [x]) b → gcBlk v L b ∨ w.heap.size ≤ b) ∧ ∀ b, v4.ownBlock = some b → v.ownBlock = some b ∨ w.heap.size ≤ b := by
  have hN := hl.hN.lt
  have s2 := g2.size
  have s3 := b3.size
  have s4 := r2.size
  have hp := hst.box.lt
  have hm := hst.map.lt
  have sw := hl.turn.size
  have z5 : w5.heap.size = w4.heap.size := by rw [← h5]; simp
  have o5 : ∀ b, b ≠ PB → w5.heap[b]? = w4.heap[b]? := fun b hb => by rw [← h5]; exact Below.heap_setCell _ _ _ _ (fun e => hb e)
  have vP : v'.ownBlock ≠ some PB := fun e => (hl.st.ap PB (.inl e)).1 rfl
  have vH : v'.ownBlock ≠ some H := fun e => (hl.st.ap H (.inl e)).2 rfl
  have blk : ∀ b, gcBlk v4 (L' ++ [x]) b → gcBlk v' L' b ∨ kv.ownBlock = some b ∨ w3.heap.size ≤ b := by
    intro b hb
    rcases hb with hb | ⟨y, hy, p, hp', rfl⟩
    · rcases r3 b hb with h | h
      · exact .inl (.inl h)
      · exact .inr (.inr h)
    · rcases List.mem_append.1 hy with hy | hy
      · exact .inl (.inr ⟨y, hy, p, hp', rfl⟩)
      · simp at hy; subst hy; exact .inr (.inl (hxk p hp'))
  have nPH : ∀ b, gcBlk v4 (L' ++ [x]) b → b ≠ PB ∧ b ≠ H := by
    intro b hb
    rcases blk b hb with h | h | h
    · exact hl.st.ap b h
    · have := hkl b h; exact ⟨by omega, by omega⟩
    · exact ⟨by omega, by omega⟩
  have box4 : GB w4 PB #[v', .map (some H)] := hl.st.box.of (by
    rw [r2.block PB (by omega) (fun e => vP e.symm), b3.block PB (by omega), g2.block PB (by omega) (fun e => hst.ne (by simpa using e))])
  refine ⟨⟨?_, g4.keep (by omega) (fun b hb => o5 b (nPH b hb).1), by rw [← h5]; exact box4.set 0 v4, m2.of ?_, nPH, hst.ne, hst.ge⟩, ?_, ?_, ?_⟩
  · rw [List.map_append, hl.st.gs, List.map_append, hS']; rfl
  · rw [o5 H (fun e => hst.ne e.symm), r2.block H (by omega) (fun e => vH e.symm), b3.block H (by omega)]
  · refine ⟨?_, ?_, ?_, by omega, fun b hb hx => ?_⟩
    · rw [← h5]; exact (r2.os.trans (b3.os.trans g2.os)).trans hl.turn.os
    · rw [← h5]; exact (r2.tape.trans (b3.tape.trans g2.tape)).trans hl.turn.tape
    · rw [← h5]; exact (r2.output.trans (b3.output.trans g2.output)).trans hl.turn.output
    · have nv : v'.ownBlock ≠ some b := fun h => by
        rcases hl.xs b h with h1 | h1
        · exact hx (.inr (.inr h1))
        · omega
      rw [o5 b (fun e => hx (.inl e)), r2.block b (by omega) (fun e => nv e.symm), b3.block b (by omega), g2.block b (by omega) (fun e => hx (.inr (.inl (by simpa using e)))), hl.turn.same b hb hx]
  · intro b hb
    rcases blk b hb with h | h | h
    · rcases hl.all b h with h1 | h1
      · exact .inl h1
      · exact .inr (by omega)
    · have := hkl b h; exact .inr (by omega)
    · exact .inr (by omega)
  · intro b hb
    rcases r3 b hb with h | h
    · rcases hl.xs b h with h1 | h1
      · exact .inl h1
      · exact .inr (by omega)
    · exact .inr (by omega)
end Go.Proofs.YtlopjljmnadhcaaDoor
