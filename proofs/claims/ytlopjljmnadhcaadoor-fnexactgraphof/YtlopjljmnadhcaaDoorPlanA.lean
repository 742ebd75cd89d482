/- The specification puts a part, and all its parts ahead of it, into a graph. -/
import Derived.Test.YtlopjljmnadhcaaDoorPlanS
import Derived.Test.YtlopjljmnadhcaaDoorExT4
import Derived.Deep.RegionLaw
import Derived.Deep.RegionWith
import Derived.Laws.ResultCell
namespace Go.Proofs.YtlopjljmnadhcaaDoor
open Go.ChangeShapes Go.WideShapes Go.ChangeAt Go.RowKit
set_option linter.unusedVariables false
set_option maxRecDepth 4000

/-- A box of these cells. -/
def GB (w : World) (B : Nat) (cs : Array Value) : Prop := ∃ t, w.heap[B]? = some (.cells cs t (0, 0))
theorem GB.at {w : World} {B : Nat} {cs : Array Value} (h : GB w B cs) (i : Nat) : w.cell? ⟨B, i, none⟩ = cs[i]? := by
  obtain ⟨t, h⟩ := h
  exact cell_at h i
theorem GB.free {w : World} {B : Nat} {cs : Array Value} (h : GB w B cs) : ∀ o, w.frozen? ⟨B, o, none⟩ = false := by
  obtain ⟨t, h⟩ := h
  intro o
  simp [World.frozen?, h]
theorem GB.set {w : World} {B : Nat} {cs : Array Value} (h : GB w B cs) (i : Nat) (v : Value) : GB (w.setCell ⟨B, i, none⟩ v) B (cs.setIfInBounds i v) := by
  obtain ⟨t, h⟩ := h
  exact ⟨t, heap_setCell_same _ _ _ _ _ _ h⟩
theorem GB.lt {w : World} {A : Nat} {cs : Array Value} (h : GB w A cs) : A < w.heap.size := by
  obtain ⟨t, h⟩ := h
  exact (Array.getElem?_eq_some_iff.1 h).1
theorem GB.of {w w' : World} {A : Nat} {cs : Array Value} (h : GB w A cs) (e : w'.heap[A]? = w.heap[A]?) : GB w' A cs := by
  obtain ⟨t, h⟩ := h
  exact ⟨t, e.trans h⟩
theorem GB.below {w w' : World} {A : Nat} {cs : Array Value} (h : GB w A cs) (hb : Below w.heap.size w w') : GB w' A cs := h.of (hb.block A h.lt)
theorem gb_new (w : World) (cs : Array Value) (t : TypeId) : GB (w.alloc (.cells cs t)) w.heap.size cs := ⟨t, heap_alloc_new w _⟩
theorem GB.other {w : World} {A : Nat} {cs : Array Value} (h : GB w A cs) {b : Nat} (hb : b ≠ A) (o : Nat) (v : Value) : GB (w.setCell ⟨b, o, none⟩ v) A cs :=
  h.of (Below.heap_setCell _ _ _ _ (fun e => hb (Eq.symm e)))
theorem gBelow_new (w : World) (o : Obj) : Below w.heap.size w (w.alloc o) := (Below.refl _ _).alloc (Nat.le_refl _) _

theorem gList_append_run {P : Program} {w : World} {ops : Array Oper} {rest : List Oper} {o : Oper} {a : Act} {Q : Exit → Act → World → Prop} (hgd : o.guard = none) (s x : Operand) (t : TypeId)
    (ho : o.op = .call { callee := .builtin .append, args := #[s, x], argTypes := #[t, t] }) (vs vx : Value) (hs : a.eval s = vs) (hx : a.eval x = vx) {v' : Value} {w' : World}
    (hr : (Builtin.append_ #[t, t] o.type #[vs, vx]).run P w = .ok v' w') (h : wpList P ops Q rest (a.put o.dst v') w') : wpList P ops Q (o :: rest) a w := by
  refine wpList_plain hgd fun _ hK => ?_
  unfold Oper.wp execOp
  simp only [ho, resolve, invoke, builtin, Sem.run_bind, Sem.run_pure, Result.andThen_ok, List.map_toArray, List.map_cons, List.map_nil, hs, hx, hr]
  exact hK _ _ h

/-- An append as one step of a region that draws, its run being known. -/
theorem gstep_append_run {P : Program} {ops : Array Oper} {o : Oper} {a : Act} {w : World} {K : Act → World → Prop} {Q : Exit → Act → World → Prop} {E : Prop} (hg : o.guard = none) (s x : Operand) (t : TypeId)
    (hop : o.op = Op.call { callee := Callee.builtin Builtin.append, args := #[s, x], argTypes := #[t, t] }) (vs vx : Value) (hs : a.eval s = vs) (hx : a.eval x = vx) {v' : Value} {w' : World}
    (hrun : (Builtin.append_ #[t, t] o.type #[vs, vx]).run P w = .ok v' w') (hK : K (a.put o.dst v') w') : if Region.wanted o (yielded ops a.tmps) = true then Oper.wp P o a w K Q else E := by
  have hw : Region.wanted o (yielded ops a.tmps) = true := by simp [Region.wanted, hg]
  rw [if_pos hw]
  unfold Oper.wp
  simp [execOp, hop, resolve, invoke, builtin, hs, hx, hrun, Result.andThen]
  exact hK

/-- The graph's parts and the texts, as the specification hands them on. -/
structure SpSt (w : World) (B : Nat) (v : Value) (L : List GC) (tv : Value) (S : Pl) : Prop where
  gs : L.map (·.g) = S.map (·.2)
  own : GcOwn w B v L
  txt : w.ownsRow B 9 1 tv S.length (txtCells S)
  ap : ∀ b, tv.ownBlock = some b → ¬ gcBlk v L b
def SpX (v tv : Value) (b : Nat) : Prop := v.ownBlock = some b ∨ tv.ownBlock = some b
def SpAll (v : Value) (L : List GC) (tv : Value) (b : Nat) : Prop := gcBlk v L b ∨ tv.ownBlock = some b
theorem SpSt.len {w : World} {B : Nat} {v : Value} {L : List GC} {tv : Value} {S : Pl} (h : SpSt w B v L tv S) : L.length = S.length := by
  have := congrArg List.length h.gs
  simpa using this
theorem SpSt.all_lt {w : World} {B : Nat} {v : Value} {L : List GC} {tv : Value} {S : Pl} (h : SpSt w B v L tv S) {b : Nat} (hb : SpAll v L tv b) : B ≤ b ∧ b < w.heap.size := by
  rcases hb with hb | hb
  · exact h.own.blk_lt hb
  · exact gOwns_lt h.txt b hb
theorem SpSt.keep {w w' : World} {B : Nat} {v : Value} {L : List GC} {tv : Value} {S : Pl} (h : SpSt w B v L tv S) (hs : w.heap.size ≤ w'.heap.size) (hk : ∀ b, SpAll v L tv b → w'.heap[b]? = w.heap[b]?) : SpSt w' B v L tv S :=
  ⟨h.gs, h.own.keep hs (fun b hb => hk b (.inl hb)), gOwns_turn h.txt (fun k e => hk k (.inr e)), h.ap⟩
theorem SpSt.below {w w' : World} {B : Nat} {v : Value} {L : List GC} {tv : Value} {S : Pl} (h : SpSt w B v L tv S) (hb : Below w.heap.size w w') : SpSt w' B v L tv S :=
  h.keep hb.size (fun b hx => hb.block b (h.all_lt hx).2)
theorem SpX.all {v tv : Value} {L : List GC} {b : Nat} (h : SpX v tv b) : SpAll v L tv b := by
  rcases h with h | h
  · exact .inl (.inl h)
  · exact .inr h

def AddPost (w : World) (B : Nat) (m : Int) (v : Value) (L : List GC) (tv : Value) (R : Pl × Int) (e : Ending) (w' : World) : Prop :=
  ∃ v' L' tv', e = .returned (.tuple #[.agg #[.int .i64 m, v', .int .i64 0, .int .i64 0, .bool false], tv', .int .i64 R.2]) ∧ SpSt w' B v' L' tv' R.1 ∧ Turn (SpX v tv) w w' ∧ (∀ b, SpAll v' L' tv' b → SpAll v L tv b ∨ w.heap.size ≤ b) ∧ ∀ b, SpX v' tv' b → SpX v tv b ∨ w.heap.size ≤ b

theorem results_add {fn : Func} {p u q : Tmp} (h : fn.results = #[.cell p 28, .tmp u, .tmp q]) (tmps : Array Value) (w : World) (g : Nat) (c0 c1 c2 c3 c4 : Value) (hp : tmps.getD p undef = .pointer (some ⟨g, 0, none⟩)) (hg : GB w g #[c0, c1, c2, c3, c4]) :
    (results fn tmps).run Tryd.prog w = .ok (.tuple #[.agg #[c0, c1, c2, c3, c4], tmps.getD u undef, tmps.getD q undef]) w := by
  obtain ⟨t, hg⟩ := hg
  have hl := run_loadVar_row (P := Tryd.prog) w g t 28 _ (0, 0) _ hg Tryd.underlying28 rfl (by kernel_rfl)
  have e : (results fn tmps).run Tryd.prog w = ((asAddr (tmps.getD p undef)).run Tryd.prog w).andThen fun a w₁ => ((loadVar 28 a).run Tryd.prog w₁).andThen fun x w₂ => .ok (.tuple #[x, tmps.getD u undef, tmps.getD q undef]) w₂ := by
    simp only [results, h]
    simp [Sem.run_bind, Result.andThen]
  rw [e, hp]
  simp [asAddr, hl, Result.andThen]

/-- Where the rounds over the parts of a part stand. -/
structure AddLoop (w wr : World) (B A X R N : Nat) (m kd sy n : Int) (a : Option Addr) (cap : Nat) (F : Fo) (v : Value) (L : List GC) (tv : Value) (S : Pl) (k : Nat) (v' : Value) (L' : List GC) (tv' kv : Value) : Prop where
  hA : GB wr A #[.int .i64 m, v', .int .i64 0, .int .i64 0, .bool false]
  hX : GB wr X #[.int .i64 kd, .int .i64 sy, .int .i64 n, .slice a F.len cap]
  hR : GB wr R #[.int .i64 0, .slice none 0 0, .int .i64 0, .int .i64 0, .bool false]
  hN : GB wr N #[.int .i64 kd, .int .i64 sy, .int .i64 n, kv, .slice none 0 0, .slice none 0 0, .slice none 0 0, .slice none 0 0, .slice none 0 0, .int .i64 0]
  kids : wr.ownsRow (N + 1) 3 1 kv k (intCells (planTo k F S).2)
  st : SpSt wr B v' L' tv' (planTo k F S).1
  kap : ∀ b, kv.ownBlock = some b → ¬ SpAll v' L' tv' b
  all : ∀ b, SpAll v' L' tv' b → SpAll v L tv b ∨ N < b
  xs : ∀ b, SpX v' tv' b → SpX v tv b ∨ N < b
  turn : Turn (SpX v tv) w wr

theorem AddLoop.safe {w wr : World} {B A X R N : Nat} {m kd sy n : Int} {a : Option Addr} {cap : Nat} {F : Fo} {v : Value} {L : List GC} {tv : Value} {S : Pl} {k : Nat} {v' : Value} {L' : List GC} {tv' kv : Value} (hl : AddLoop w wr B A X R N m kd sy n a cap F v L tv S k v' L' tv' kv)
    (hst : SpSt w B v L tv S) {b : Nat} (h1 : w.heap.size ≤ b) (h2 : b ≤ N) : ¬ SpAll v' L' tv' b := by
  intro h3
  rcases hl.all b h3 with h4 | h4
  · have := (hst.all_lt h4).2; omega
  · omega
/-- The place of a part is put behind the others: what the append does. -/
theorem add_append {w wr w5 w6 w7 : World} {B A X R N : Nat} {m kd sy n : Int} {a : Option Addr} {cap : Nat} {F : Fo} {v : Value} {L : List GC} {tv : Value} {S : Pl} {k : Nat} {v' : Value} {L' : List GC} {tv' kv : Value} {pl : Int} (hl : AddLoop w wr B A X R N m kd sy n a cap F v L tv S k v' L' tv' kv)
    (hst : SpSt w B v L tv S) (lA : w.heap.size ≤ A) (lAN : A < N) (hk : k ≤ 100000) (tn5 : Turn (SpX v' tv') wr w5) (t6 : Turn (· = A) w5 w6) (h7 : w6.alloc (.cells #[.int .i64 pl] 3) = w7) :
    ∃ v8 w8, (Builtin.append_ #[62, 62] 62 #[kv, .slice (some ⟨w6.heap.size, 0, none⟩) 1 1]).run Tryd.prog w7 = .ok v8 w8 ∧ w8.ownsRow (N + 1) 3 1 v8 (k + 1) (intCells (planTo k F S).2 ++ [.int .i64 pl]) ∧ w7.grownBy w8 kv.ownBlock ∧ ∀ b, v8.ownBlock = some b → kv.ownBlock = some b ∨ w7.heap.size ≤ b := by
  obtain ⟨i0, hi, hz0, hz1, hz2⟩ := info_int_parts
  have hN := hl.hN.lt
  have s5 := tn5.size
  have s6 := t6.size
  have b7 : Below w6.heap.size w6 w7 := by rw [← h7]; exact gBelow_new _ _
  have k7 : w7.ownsRow (N + 1) 3 1 kv k (intCells (planTo k F S).2) := gOwns_turn hl.kids (fun b hb => by
    have hlt := gOwns_lt hl.kids b hb
    rw [b7.block b (by omega), t6.same b (by omega) (by omega)]
    exact tn5.same b hlt.2 (fun h => hl.kap b hb h.all))
  have c7 : w7.heap[w6.heap.size]? = some (.cells #[.int .i64 pl] 3 (0, 0)) := by rw [← h7]; exact heap_alloc_new _ _
  exact append_where (P := Tryd.prog) w7 (N + 1) 62 62 3 i0 (.int .i64 0) 1 8 Tryd.underlying62 hi hz0 hz1 hz2 rfl (by decide) kv k _ k7 ⟨w6.heap.size, 0, none⟩ 1 1 [.int .i64 pl] rfl
    (by intro j x hj; rw [add_plain, cell_at c7]; simpa using hj) (by intro x hx; simp at hx; subst hx; rfl) (by unfold maxLen; omega) (by omega) (by have := b7.size; omega)

/-- Behind a round. -/
theorem add_round {w wr w5 w6 w7 w8 w9 : World} {B A X R N : Nat} {m kd sy n : Int} {a : Option Addr} {cap : Nat} {F : Fo} {v : Value} {L : List GC} {tv : Value} {S : Pl} {k : Nat} {v' : Value} {L' : List GC} {tv' kv : Value} {kd' sy' n' : Int} {kids : Fo} {v5 : Value} {L5 : List GC} {tv5 v8 : Value}
    (hl : AddLoop w wr B A X R N m kd sy n a cap F v L tv S k v' L' tv' kv) (hst : SpSt w B v L tv S) (lA : w.heap.size ≤ A) (lAX : A < X) (lXR : X < R) (lRN : R < N)
    (hdr : F.drop k = .cons kd' sy' n' kids (F.drop (k + 1)))
    (st5 : SpSt w5 B v5 L5 tv5 (planX kd' sy' n' kids (planTo k F S).1).1) (tn5 : Turn (SpX v' tv') wr w5) (all5 : ∀ b, SpAll v5 L5 tv5 b → SpAll v' L' tv' b ∨ wr.heap.size ≤ b) (xs5 : ∀ b, SpX v5 tv5 b → SpX v' tv' b ∨ wr.heap.size ≤ b)
    (t6 : Turn (· = A) w5 w6) (hA6 : GB w6 A #[.int .i64 m, v5, .int .i64 0, .int .i64 0, .bool false]) (b7 : Below w6.heap.size w6 w7)
    (r1 : w8.ownsRow (N + 1) 3 1 v8 (k + 1) (intCells (planTo k F S).2 ++ [.int .i64 (planX kd' sy' n' kids (planTo k F S).1).2])) (r2 : w7.grownBy w8 kv.ownBlock) (r3 : ∀ b, v8.ownBlock = some b → kv.ownBlock = some b ∨ w7.heap.size ≤ b)
    (h9 : w8.setCell ⟨N, 3, none⟩ v8 = w9) : AddLoop w w9 B A X R N m kd sy n a cap F v L tv S (k + 1) v5 L5 tv5 v8 := by
  have hnx := planTo_next k F S kd' sy' n' kids hdr
  have hN := hl.hN.lt
  have s5 := tn5.size
  have s6 := t6.size
  have s7 := b7.size
  have s8 := r2.size
  have kvlt := fun b hb => gOwns_lt hl.kids b hb
  have z9 : w9.heap.size = w8.heap.size := by rw [← h9]; simp
  have o9 : ∀ b, b ≠ N → w9.heap[b]? = w8.heap[b]? := fun b hb => by rw [← h9]; exact Below.heap_setCell _ _ _ _ (fun e => hb e)
  -- what was there stays, but for the boxes and the row of places
  have all9 : ∀ b, b < w5.heap.size → b ≠ A → b ≠ N → kv.ownBlock ≠ some b → w9.heap[b]? = w5.heap[b]? := fun b h1 h2 h3 h4 => by
    rw [o9 b h3, r2.block b (by omega) (fun e => h4 e.symm), b7.block b (by omega), t6.same b h1 h2]
  have box : ∀ b, w.heap.size ≤ b → b ≤ N → b ≠ A → b ≠ N → w9.heap[b]? = wr.heap[b]? := fun b h1 h2 h3 h4 => by
    rw [all9 b (by omega) h3 h4 (fun e => by have := kvlt b e; omega)]
    exact tn5.same b (by omega) (fun h => hl.safe hst h1 h2 h.all)
  have away : ∀ b, SpAll v5 L5 tv5 b → b ≠ A ∧ b ≠ N ∧ kv.ownBlock ≠ some b := fun b hb => by
    rcases all5 b hb with h | h
    · exact ⟨fun e => hl.safe hst (by omega) (by omega) h, fun e => hl.safe hst (by omega) (by omega) h, fun e => hl.kap b e h⟩
    · exact ⟨by omega, by omega, fun e => by have := kvlt b e; omega⟩
  have hN8 : GB w8 N #[.int .i64 kd, .int .i64 sy, .int .i64 n, kv, .slice none 0 0, .slice none 0 0, .slice none 0 0, .slice none 0 0, .slice none 0 0, .int .i64 0] := hl.hN.of (by
    rw [r2.block N (by omega) (fun e => by have := kvlt N e.symm; omega), b7.block N (by omega), t6.same N (by omega) (by omega)]
    exact tn5.same N hN (fun h => hl.safe hst (by omega) (Nat.le_refl _) h.all))
  refine ⟨hA6.of ?_, hl.hX.of (box X (by omega) (by omega) (by omega) (by omega)), hl.hR.of (box R (by omega) (by omega) (by omega) (by omega)), by rw [← h9]; exact hN8.set 3 v8, ?_, ?_, ?_, ?_, ?_, ?_⟩
  · rw [o9 A (by omega), r2.block A (by omega) (fun e => by have := kvlt A e.symm; omega), b7.block A (by omega)]
  · rw [hnx]
    have e : intCells ((planTo k F S).2 ++ [(planX kd' sy' n' kids (planTo k F S).1).2]) = intCells (planTo k F S).2 ++ [.int .i64 (planX kd' sy' n' kids (planTo k F S).1).2] := intCells_snoc _ _
    simp only
    rw [e]
    exact gOwns_turn r1 (fun b hb => o9 b (fun e => by have := gOwns_lt r1 b hb; omega))
  · rw [hnx]
    exact st5.keep (by omega) (fun b hb => by obtain ⟨h1, h2, h3⟩ := away b hb; exact all9 b (st5.all_lt hb).2 h1 h2 h3)
  · intro b hb h
    rcases r3 b hb with h1 | h1
    · exact (away b h).2.2 h1
    · have := (st5.all_lt h).2; omega
  · intro b hb
    rcases all5 b hb with h | h
    · exact hl.all b h
    · exact .inr (by omega)
  · intro b hb
    rcases xs5 b hb with h | h
    · exact hl.xs b h
    · exact .inr (by omega)
  · have sw := hl.turn.size
    refine ⟨?_, ?_, ?_, by omega, fun b hb hx => ?_⟩
    · rw [← h9]; exact (r2.os.trans (b7.os.trans (t6.os.trans tn5.os))).trans hl.turn.os
    · rw [← h9]; exact (r2.tape.trans (b7.tape.trans (t6.tape.trans tn5.tape))).trans hl.turn.tape
    · rw [← h9]; exact (r2.output.trans (b7.output.trans (t6.output.trans tn5.output))).trans hl.turn.output
    · rw [all9 b (by omega) (by omega) (by omega) (fun e => by have := kvlt b e; omega), tn5.same b (by omega) (fun h => ?_), hl.turn.same b hb hx]
      rcases hl.xs b h with h1 | h1
      · exact hx h1
      · omega

theorem info_gn_parts : ∃ i, Tryd.prog.info? 69 = some i ∧ i.zero = some (.agg #[.int .i64 0, .int .i64 0, .int .i64 0, .slice none 0 0, .slice none 0 0, .slice none 0 0, .slice none 0 0, .slice none 0 0, .slice none 0 0, .int .i64 0]) ∧ i.size = 10 ∧ i.bytes = 176 := by
  have hi : (Tryd.prog.info? 69).map (fun i => (i.zero, i.size, i.bytes)) = some (some (.agg #[.int .i64 0, .int .i64 0, .int .i64 0, .slice none 0 0, .slice none 0 0, .slice none 0 0, .slice none 0 0, .slice none 0 0, .slice none 0 0, .int .i64 0]), 10, 176) := by kernel_rfl
  cases h : Tryd.prog.info? 69 with
  | none => rw [h] at hi; simp at hi
  | some i => rw [h] at hi; simp at hi; exact ⟨i, rfl, hi⟩
theorem info_txt_parts : ∃ i, Tryd.prog.info? 9 = some i ∧ i.zero = some (.string ByteArray.empty) ∧ i.size = 1 ∧ i.bytes = 16 := by
  have hi : (Tryd.prog.info? 9).map (fun i => (i.zero, i.size, i.bytes)) = some (some (.string ByteArray.empty), 1, 16) := by kernel_rfl
  cases h : Tryd.prog.info? 9 with
  | none => rw [h] at hi; simp at hi
  | some i => rw [h] at hi; simp at hi; exact ⟨i, rfl, hi⟩
theorem gInt_of_row {w : World} {B B' : Nat} {t : TypeId} {a : Option Addr} {n cap : Nat} {l : List Int} (h : w.ownsRow B t 1 (.slice a n cap) l.length (intCells l)) (hB : B' ≤ B) : IntOwn w B' a l := by
  obtain ⟨a', cap', e, ho⟩ := intOwn_of h
  cases e
  exact ⟨ho.len, fun x hx => Nat.le_trans hB (ho.ge x hx), fun hl => by obtain ⟨b, h1, h2, h3, h4⟩ := ho.row hl; exact ⟨b, h1, by omega, h3, h4⟩⟩
/-- A part is put behind the others. -/
theorem gc_append {wr w2 : World} {B : Nat} {va : Option Addr} {vc : Nat} {L : List GC} {x : GC} (h : GcOwn wr B (.slice va L.length vc) L) (hx : IntOwn wr B x.a x.g.ks) (hxl : ∀ p, x.a = some p → p.block < wr.heap.size) (hxn : ∀ p, x.a = some p → ¬ gcBlk (.slice va L.length vc) L p.block)
    (hL : L.length ≤ 100000) (h2 : wr.alloc (.cells #[.int .i64 x.g.kd, .int .i64 x.g.sy, .int .i64 x.g.nn, .slice x.a x.g.ks.length x.c, .slice none 0 0, .slice none 0 0, .slice none 0 0, .slice none 0 0, .slice none 0 0, .int .i64 0] 69) = w2) (hB : B ≤ wr.heap.size) :
    ∃ v3 w3, (Builtin.append_ #[26, 26] 26 #[.slice va L.length vc, .slice (some ⟨wr.heap.size, 0, none⟩) 1 1]).run Tryd.prog w2 = .ok v3 w3 ∧ GcOwn w3 B v3 (L ++ [x]) ∧ w2.grownBy w3 (Value.slice va L.length vc).ownBlock ∧ ∀ b, v3.ownBlock = some b → (Value.slice va L.length vc).ownBlock = some b ∨ w2.heap.size ≤ b := by
  obtain ⟨i0, hi, hz0, hz1, hz2⟩ := info_gn_parts
  have b2 : Below wr.heap.size wr w2 := by rw [← h2]; exact gBelow_new _ _
  have k2 := h.below b2
  have c2 : w2.heap[wr.heap.size]? = some (.cells #[.int .i64 x.g.kd, .int .i64 x.g.sy, .int .i64 x.g.nn, .slice x.a x.g.ks.length x.c, .slice none 0 0, .slice none 0 0, .slice none 0 0, .slice none 0 0, .slice none 0 0, .int .i64 0] 69 (0, 0)) := by rw [← h2]; exact heap_alloc_new _ _
  obtain ⟨v3, w3, hr, r1, r2, r3⟩ := append_where (P := Tryd.prog) w2 B 26 26 69 i0 _ 10 176 Tryd.underlying26 hi hz0 hz1 hz2 rfl (by decide) (.slice va L.length vc) L.length _ k2.row ⟨wr.heap.size, 0, none⟩ 1 1 x.v rfl
    (by intro j u hj; rw [add_plain, cell_at c2]; simpa [GC.v] using hj) (by intro u hu; simp [GC.v] at hu; rcases hu with rfl | rfl | rfl | rfl | rfl | rfl <;> rfl) (by unfold maxLen; omega) (by omega) (by have := b2.size; omega)
  refine ⟨v3, w3, hr, k2.snoc (hx.below b2) (fun p hp => Nat.lt_of_lt_of_le (hxl p hp) b2.size) (fun p hp e => hxn p hp (.inl e)) (fun y hy p q hp hq e => hxn q hq (.inr ⟨y, hy, p, hp, e⟩)) r1 r2 r3, r2, r3⟩
/-- A text is put behind the others. -/
theorem txt_append {w4 w5 : World} {B : Nat} {ta : Option Addr} {tc : Nat} {S : Pl} {t : List UInt8} {adr : Nat} (h : w5.ownsRow B 9 1 (.slice ta S.length tc) S.length (txtCells S)) (hS : S.length ≤ 100000)
    (c5 : w5.heap[adr]? = some (.cells #[.string ⟨t.toArray⟩] 9 (0, 0))) (hB : B ≤ w5.heap.size) (g : GN) :
    ∃ v6 w6, (Builtin.append_ #[44, 44] 44 #[.slice ta S.length tc, .slice (some ⟨adr, 0, none⟩) 1 1]).run Tryd.prog w5 = .ok v6 w6 ∧ w6.ownsRow B 9 1 v6 (S ++ [(t, g)]).length (txtCells (S ++ [(t, g)])) ∧ w5.grownBy w6 (Value.slice ta S.length tc).ownBlock ∧ ∀ b, v6.ownBlock = some b → (Value.slice ta S.length tc).ownBlock = some b ∨ w5.heap.size ≤ b := by
  obtain ⟨i0, hi, hz0, hz1, hz2⟩ := info_txt_parts
  obtain ⟨v6, w6, hr, r1, r2, r3⟩ := append_where (P := Tryd.prog) w5 B 44 44 9 i0 _ 1 16 Tryd.underlying44 hi hz0 hz1 hz2 rfl (by decide) (.slice ta S.length tc) S.length _ h ⟨adr, 0, none⟩ 1 1 [.string ⟨t.toArray⟩] rfl
    (by intro j u hj; rw [add_plain, cell_at c5]; simpa using hj) (by intro u hu; simp at hu; subst hu; rfl) (by unfold maxLen; omega) (by omega) hB
  refine ⟨v6, w6, hr, ?_, r2, r3⟩
  have e : txtCells (S ++ [(t, g)]) = txtCells S ++ [.string ⟨t.toArray⟩] := by simp [txtCells]
  rw [e, List.length_append]
  exact r1

/-- At the end: what lies where. -/
theorem add_end {w wr w2 w3 w4 w5 w6 w7 : World} {B A X R N : Nat} {m kd sy n : Int} {a : Option Addr} {cap : Nat} {F : Fo} {v : Value} {L : List GC} {tv : Value} {S : Pl} {k : Nat} {v' : Value} {L' : List GC} {tv' kv v3 v6 : Value} {x : GC} {t : List UInt8} {S' : Pl}
    (hl : AddLoop w wr B A X R N m kd sy n a cap F v L tv S k v' L' tv' kv) (hst : SpSt w B v L tv S) (lA : w.heap.size ≤ A) (lAR : A < R) (lRN : R < N) (hBw : B ≤ w.heap.size)
    (hS' : (planTo k F S).1 = S') (hxk : ∀ p, x.a = some p → kv.ownBlock = some p.block) (hkl : ∀ b, kv.ownBlock = some b → N < b ∧ b < wr.heap.size)
    (b2 : Below wr.heap.size wr w2) (g3 : GcOwn w3 B v3 (L' ++ [x])) (r2 : w2.grownBy w3 v'.ownBlock) (r3 : ∀ b, v3.ownBlock = some b → v'.ownBlock = some b ∨ w2.heap.size ≤ b)
    (t4 : Turn (· = A) w3 w4) (b5 : Below w4.heap.size w4 w5)
    (q1 : w6.ownsRow B 9 1 v6 (S' ++ [(t, x.g)]).length (txtCells (S' ++ [(t, x.g)]))) (q2 : w5.grownBy w6 tv'.ownBlock) (q3 : ∀ b, v6.ownBlock = some b → tv'.ownBlock = some b ∨ w5.heap.size ≤ b)
    (t7 : Turn (· = R) w6 w7) :
    SpSt w7 B v3 (L' ++ [x]) v6 (S' ++ [(t, x.g)]) ∧ Turn (SpX v tv) w w7 ∧ (∀ b, SpAll v3 (L' ++ [x]) v6 b → SpAll v L tv b ∨ w.heap.size ≤ b) ∧ ∀ b, SpX v3 v6 b → SpX v tv b ∨ w.heap.size ≤ b := by
  have hN := hl.hN.lt
  have s2 := b2.size
  have s3 := r2.size
  have s4 := t4.size
  have s5 := b5.size
  have s6 := q2.size
  have s7 := t7.size
  have sw := hl.turn.size
  have tvlt := fun b hb => gOwns_lt hl.st.txt b hb
  have vlt := fun b hb => gOwns_lt hl.st.own.row b hb
  -- the blocks of the new row of parts
  have blk : ∀ b, gcBlk v3 (L' ++ [x]) b → gcBlk v' L' b ∨ kv.ownBlock = some b ∨ w2.heap.size ≤ b := by
    intro b hb
    rcases hb with hb | ⟨y, hy, p, hp, rfl⟩
    · rcases r3 b hb with h | h
      · exact .inl (.inl h)
      · exact .inr (.inr h)
    · rcases List.mem_append.1 hy with hy | hy
      · exact .inl (.inr ⟨y, hy, p, hp, rfl⟩)
      · simp at hy; subst hy; exact .inr (.inl (hxk p hp))
  have notv : ∀ b, gcBlk v3 (L' ++ [x]) b → b ≠ A ∧ b ≠ R ∧ tv'.ownBlock ≠ some b := by
    intro b hb
    rcases blk b hb with h | h | h
    · exact ⟨fun e => hl.safe hst (by omega) (by omega) (.inl h), fun e => hl.safe hst (by omega) (by omega) (.inl h), fun e => hl.st.ap b e h⟩
    · have := hkl b h
      exact ⟨by omega, by omega, fun e => hl.kap b h (.inr e)⟩
    · exact ⟨by omega, by omega, fun e => by have := tvlt b e; omega⟩
  have tvn : ∀ b, tv'.ownBlock = some b → b ≠ A ∧ b ≠ R ∧ v'.ownBlock ≠ some b := fun b hb =>
    ⟨fun e => hl.safe hst (by omega) (by omega) (.inr hb), fun e => hl.safe hst (by omega) (by omega) (.inr hb), fun e => hl.st.ap b hb (.inl e)⟩
  have own7 : GcOwn w7 B v3 (L' ++ [x]) := g3.keep (by omega) (fun b hb => by
    have hlt := (g3.blk_lt hb).2
    obtain ⟨h1, h2, h3⟩ := notv b hb
    rw [t7.same b (by omega) h2, q2.block b (by omega) (fun e => h3 e.symm), b5.block b (by omega), t4.same b hlt h1])
  have v6n : ∀ b, v6.ownBlock = some b → b ≠ R ∧ ¬ gcBlk v3 (L' ++ [x]) b := by
    intro b hb
    rcases q3 b hb with h | h
    · exact ⟨(tvn b h).2.1, fun hg => (notv b hg).2.2 h⟩
    · exact ⟨by omega, fun hg => by have := (g3.blk_lt hg).2; omega⟩
  refine ⟨⟨?_, own7, gOwns_turn q1 (fun b hb => t7.same b (gOwns_lt q1 b hb).2 (v6n b hb).1), fun b hb => (v6n b hb).2⟩, ?_, ?_, ?_⟩
  · rw [List.map_append, hl.st.gs, List.map_append, hS']; rfl
  · refine ⟨?_, ?_, ?_, by omega, fun b hb hx => ?_⟩
    · exact (t7.os.trans (q2.os.trans (b5.os.trans (t4.os.trans (r2.os.trans b2.os))))).trans hl.turn.os
    · exact (t7.tape.trans (q2.tape.trans (b5.tape.trans (t4.tape.trans (r2.tape.trans b2.tape))))).trans hl.turn.tape
    · exact (t7.output.trans (q2.output.trans (b5.output.trans (t4.output.trans (r2.output.trans b2.output))))).trans hl.turn.output
    · have nx : ¬ SpX v' tv' b := fun h => by
        rcases hl.xs b h with h1 | h1
        · exact hx h1
        · omega
      rw [t7.same b (by omega) (by omega), q2.block b (by omega) (fun e => nx (.inr e.symm)), b5.block b (by omega), t4.same b (by omega) (by omega), r2.block b (by omega) (fun e => nx (.inl e.symm)), b2.block b (by omega), hl.turn.same b hb hx]
  · intro b hb
    rcases hb with hb | hb
    · rcases blk b hb with h | h | h
      · rcases hl.all b (.inl h) with h1 | h1
        · exact .inl h1
        · exact .inr (by omega)
      · have := hkl b h; exact .inr (by omega)
      · exact .inr (by omega)
    · rcases q3 b hb with h | h
      · rcases hl.all b (.inr h) with h1 | h1
        · exact .inl h1
        · exact .inr (by omega)
      · exact .inr (by omega)
  · intro b hb
    rcases hb with hb | hb
    · rcases r3 b hb with h | h
      · rcases hl.xs b (.inl h) with h1 | h1
        · exact .inl h1
        · exact .inr (by omega)
      · exact .inr (by omega)
    · rcases q3 b hb with h | h
      · rcases hl.xs b (.inr h) with h1 | h1
        · exact .inl h1
        · exact .inr (by omega)
      · exact .inr (by omega)
end Go.Proofs.YtlopjljmnadhcaaDoor
