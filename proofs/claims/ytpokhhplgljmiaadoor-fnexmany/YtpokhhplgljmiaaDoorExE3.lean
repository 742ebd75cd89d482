/- What the program's ExSame answers. -/
import Derived.Test.YtpokhhplgljmiaaDoorExE2
import Derived.Test.YtpokhhplgljmiaaDoorExAp
namespace Go.Proofs.YtpokhhplgljmiaaDoor
open Go.ChangeShapes Go.WideShapes Go.ChangeAt Go.RowKit
set_option linter.unusedVariables false
set_option maxRecDepth 4000

def lenOf : Value → Nat
  | .slice _ n _ => n
  | _ => 0
def mapSize (w : World) (H : Nat) : Nat := match w.heap[H]? with | some (.map es _) => es.size | _ => 0
theorem mapSize_of {w : World} {H c : Nat} {es : Array MapEntry} (h : w.heap[H]? = some (.map es c)) : mapSize w H = es.size := by simp [mapSize, h]

/-- What is kept in the map: the blocks of the lists that were gone through. -/
structure MapInv (Wb wr : World) (H M : Nat) (S : List Nat) : Prop where
  ex : ∃ (es : Array MapEntry) (c : Nat) (V : List Nat), wr.heap[H]? = some (.map es c) ∧ KeysIn V es.toList ∧ (∀ e ∈ es.toList, e.born < c) ∧ (∀ x ∈ V, Blk Wb x) ∧ (V ++ S).Nodup ∧ es.size + S.length ≤ M

theorem MapInv.below {Wb wr wr' : World} {H M : Nat} {S : List Nat} (h : MapInv Wb wr H M S) (hb : Below wr.heap.size wr wr') : MapInv Wb wr' H M S ∧ mapSize wr' H = mapSize wr H := by
  obtain ⟨es, c, V, h1, h2⟩ := h.ex
  have e := hb.block H (Array.getElem?_eq_some_iff.1 h1).1
  exact ⟨⟨es, c, V, e.trans h1, h2⟩, by simp [mapSize, e]⟩
def sizes (L : List Tw) : Nat := (L.map fun t => t.F.size).sum
theorem sizes_snoc (L : List Tw) (t : Tw) : sizes (L ++ [t]) = sizes L + t.F.size := by simp [sizes]
def blocks (L : List Tw) : List Nat := L.flatMap Tw.S
theorem blocks_snoc (L : List Tw) (t : Tw) : blocks (L ++ [t]) = blocks L ++ t.S := by simp [blocks]

structure SameInv (Wb : World) (H M N : Nat) (R : Bool) (v : Value) (wr : World) (L : List Tw) : Prop where
  row : wr.ownsRow Wb.heap.size 50 2 v L.length (twCells L)
  bel : Below Wb.heap.size Wb wr
  map : MapInv Wb wr H M (blocks L)
  own : ∀ t ∈ L, Own1 Wb t
  val : R = L.all fun t => eqF t.F t.G
  cnt : L.length + sizes L ≤ N

/-- Within one pair: k of its parts are behind. -/
structure InInv (Wb : World) (H M N Bt bF : Nat) (R : Bool) (t : Tw) (v : Value) (wr : World) (k : Nat) (L : List Tw) (Sk : List Nat) : Prop where
  row : wr.ownsRow Wb.heap.size 50 2 v L.length (twCells L)
  bel : Below Wb.heap.size Wb wr
  map : MapInv Wb wr H M (blocks L ++ Sk)
  own : ∀ t ∈ L, Own1 Wb t
  kids : OwnKids Wb bF (k * 4) (t.F.len - k) Sk (t.F.drop k)
  val : R = ((L.all fun t => eqF t.F t.G) && eqF (t.F.drop k) (t.G.drop k))
  box : wr.heap[Bt]? = some (.cells #[.slice t.a t.F.len t.ca, .slice t.b t.G.len t.cb] 50 (0, 0))
  apart : v.ownBlock ≠ some Bt
  cnt : L.length + sizes L + (t.F.drop k).size ≤ N

theorem size_step' {F : Fo} {k : Nat} {kd sy n : Int} {kids : Fo} (h : F.drop k = .cons kd sy n kids (F.drop (k + 1))) : (F.drop k).size = 1 + kids.size + (F.drop (k + 1)).size := by rw [h]; simp [Fo.size]; omega
theorem info_two : ∃ i, Tryd.prog.info? 50 = some i ∧ i.zero = some (.agg #[.slice none 0 0, .slice none 0 0]) ∧ i.size = 2 ∧ i.bytes = 48 := by
  have hi : (Tryd.prog.info? 50).map (fun i => (i.zero, i.size, i.bytes)) = some (some (.agg #[.slice none 0 0, .slice none 0 0]), 2, 48) := by kernel_rfl
  cases h : Tryd.prog.info? 50 with
  | none => rw [h] at hi; simp at hi
  | some i => rw [h] at hi; simp at hi; exact ⟨i, rfl, hi⟩

/-- One key more, whatever the order in which the old number is read and the new entry is made. -/
theorem map_step (w : World) (H : Nat) (es : Array MapEntry) (c : Nat) (a b : Addr) (m : Int) (V : List Nat) (hH : w.heap[H]? = some (.map es c)) (ha : Blk w a.block) (hV : ∀ x ∈ V, Blk w x) (hn : a.block ∉ V) (hk : KeysIn V es.toList) (hb : ∀ e ∈ es.toList, e.born < c) :
    ∃ W4 W5, (Instr.lookup 52 (.map (some H)) (keyV a b m) false).run Tryd.prog w = .ok (.int .i64 0) w ∧
      (Instr.mapEntry 52 (.map (some H)) (keyV a b m)).run Tryd.prog w = .ok (.tuple #[.int .i64 0, .int .i64 c]) W4 ∧
      (Instr.lookup 52 (.map (some H)) (keyV a b m) false).run Tryd.prog W4 = .ok (.int .i64 0) W4 ∧
      (Instr.entryStore 52 (.map (some H)) (.int .i64 c) (.int .i64 1)).run Tryd.prog W4 = .ok () W5 ∧
      W5.heap[H]? = some (.map (es.push { key := keyV a b m, val := .int .i64 1, born := c }) (c + 1)) ∧ w.grownBy W5 (some H) ∧ W5.heap.size = w.heap.size := by
  have hlt : H < w.heap.size := (Array.getElem?_eq_some_iff.1 hH).1
  have hne : ∀ x, Blk w x → x ≠ H := fun x ⟨cc, tt, hx⟩ e => by subst e; rw [hH] at hx; cases hx
  obtain ⟨W4, hW4⟩ : ∃ W4, w.putObj H (.map (es.push { key := keyV a b m, val := .int .i64 0, born := c }) (c + 1)) = W4 := ⟨_, rfl⟩
  have hH4 : W4.heap[H]? = some (.map (es.push { key := keyV a b m, val := .int .i64 0, born := c }) (c + 1)) := by rw [← hW4]; exact World.putObj_heap_same hlt
  have ho4 : ∀ x, x ≠ H → W4.heap[x]? = w.heap[x]? := fun x hx => by rw [← hW4]; exact World.putObj_heap_other hx
  have hs4 : W4.heap.size = w.heap.size := by rw [← hW4]; simp
  have e1 := entry_new w H es c a b m V hH ha hV hn hk
  rw [hW4] at e1
  have e2 := lookup_last W4 H es c (c + 1) a b m V hH4 (ha.of (ho4 _ (hne _ ha))) (fun x hx => (hV x hx).of (ho4 x (hne x (hV x hx)))) hn hk
  have e3 := entry_store W4 H es c (keyV a b m) (.int .i64 1) hH4 hb
  refine ⟨W4, _, lookup_none w H es c a b m V hH ha hV hn hk, e1, e2, e3, World.putObj_heap_same (by omega), ?_, by simp [hs4]⟩
  refine ⟨by rw [← hW4]; rfl, by rw [← hW4]; rfl, by rw [← hW4]; rfl, by simp [hs4], fun x _ hx => ?_⟩
  have hxH : x ≠ H := fun e => hx (by rw [e])
  rw [World.putObj_heap_other hxH, ho4 x hxH]

theorem new_two (w : World) (x y : Value) (t : TypeId) : ∀ j u, ([x, y] : List Value)[j]? = some u → (w.alloc (.cells #[x, y] t)).cell? ((⟨w.heap.size, 0, none⟩ : Addr).add j) = some u := by
  intro j u hj
  match j, hj with
  | 0, hj => simp at hj; subst hj; simp [Addr.add]
  | 1, hj => simp at hj; subst hj; simp [Addr.add]
theorem InInv.start {Wb wr w3 W5 : World} {H M N g cp bF : Nat} {R : Bool} {t : Tw} {L0 : List Tw} {SF : List Nat} {es : Array MapEntry} {c : Nat} {V : List Nat} {b : Addr} {m : Int}
    (hrow0 : wr.ownsRow Wb.heap.size 50 2 (.slice (some ⟨g, 0, none⟩) L0.length cp) L0.length (twCells L0)) (hbel : Below Wb.heap.size Wb wr) (h13 : Below wr.heap.size wr w3) (hbox3 : w3.heap[wr.heap.size]? = some (.cells #[.slice t.a t.F.len t.ca, .slice t.b t.G.len t.cb] 50 (0, 0)))
    (q5 : W5.heap[H]? = some (.map (es.push { key := keyV ⟨bF, 0, none⟩ b m, val := .int .i64 1, born := c }) (c + 1))) (q6 : w3.grownBy W5 (some H)) (q7 : W5.heap.size = w3.heap.size) (hH : Wb.heap.size ≤ H) (hHw : wr.heap[H]? = some (.map es c))
    (hkeys : KeysIn V es.toList) (hborn : ∀ e ∈ es.toList, e.born < c) (hV : ∀ x ∈ V, Blk Wb x) (hBF : Blk Wb bF) (hnd : (V ++ (blocks L0 ++ bF :: SF)).Nodup) (hms : es.size + (blocks L0 ++ bF :: SF).length ≤ M)
    (hown : ∀ t ∈ L0, Own1 Wb t) (hKF : OwnKids Wb bF 0 t.F.len SF t.F) (hval : R = ((L0.all fun t => eqF t.F t.G) && eqF t.F t.G)) (hcnt : L0.length + sizes L0 + t.F.size ≤ N) :
    InInv Wb H M N wr.heap.size bF R t (.slice (some ⟨g, 0, none⟩) L0.length cp) W5 0 L0 SF ∧ mapSize W5 H = es.size + 1 := by
  have hHlt : H < wr.heap.size := (Array.getElem?_eq_some_iff.1 hHw).1
  have hrow3 := owns_below hrow0 h13
  have hgne : g ≠ H := by
    rintro rfl
    rcases hrow0.2 with ⟨h, _⟩ | ⟨g2, c2, cur, h, _, hg, _⟩
    · simp at h
    · simp only [Value.slice.injEq, Option.some.injEq, Addr.mk.injEq, and_true, true_and] at h
      obtain ⟨rfl, rfl⟩ := h
      rw [hHw] at hg
      cases hg
  have hb3 : Below Wb.heap.size Wb w3 := hbel.trans (h13.mono hbel.size)
  have hlt3 : wr.heap.size < w3.heap.size := (Array.getElem?_eq_some_iff.1 hbox3).1
  refine ⟨⟨hrow3.kept q6 (.inr (fun e => hgne (by simpa [Value.ownBlock] using e))), hb3.grown q6 hb3.size (fun k hk => by cases hk; exact hH), ⟨_, _, bF :: V, q5, ?_, ?_, ?_, ?_, ?_⟩, hown, by simpa [Fo.drop_zero] using hKF, by simpa [Fo.drop_zero] using hval,
    (q6.5 _ hlt3 (fun e => by cases e; omega)).trans hbox3, ?_, by simpa [Fo.drop_zero] using hcnt⟩, by rw [mapSize_of q5]; simp⟩
  · intro e he
    simp only [Array.toList_push, List.mem_append, List.mem_singleton] at he
    rcases he with he | rfl
    · obtain ⟨a, b, m, h1, h2⟩ := hkeys e he
      exact ⟨a, b, m, h1, by simp [h2]⟩
    · exact ⟨⟨bF, 0, none⟩, b, m, rfl, by simp⟩
  · intro e he
    simp only [Array.toList_push, List.mem_append, List.mem_singleton] at he
    rcases he with he | rfl
    · exact Nat.lt_succ_of_lt (hborn e he)
    · exact Nat.lt_succ_self c
  · intro x hx
    rcases List.mem_cons.1 hx with rfl | hx
    · exact hBF
    · exact hV x hx
  · have hp : (V ++ (blocks L0 ++ bF :: SF)).Perm ((bF :: V) ++ (blocks L0 ++ SF)) := by
      have h1 : (blocks L0 ++ bF :: SF).Perm (bF :: (blocks L0 ++ SF)) := List.perm_middle
      exact (h1.append_left V).trans List.perm_middle
    exact hp.nodup_iff.1 hnd
  · simp at hms ⊢
    omega
  · intro e
    have := (hrow0.lt g rfl).2
    simp [Value.ownBlock] at e
    omega

theorem nil_of_len {F : Fo} (h : F.len = 0) : F = .nil := by
  cases F with
  | nil => rfl
  | cons => simp [Fo.len] at h

/-- What a round wants of its two parts. -/
theorem InInv.at {Wb wr : World} {H M N Bt bF bG oG : Nat} {R : Bool} {t : Tw} {v : Value} {k : Nat} {L : List Tw} {Sk : List Nat} (h : InInv Wb H M N Bt bF R t v wr k L Sk) (hk : k < t.F.len) (hle : t.F.len = t.G.len) (hBF : Blk Wb bF) (hbG : bG < Wb.heap.size) (hKG : Kids Wb bG oG t.G) :
    ∃ kd sy n kids a cap S1 S2 kd' sy' n' kids' a' cap', t.F.drop k = .cons kd sy n kids (t.F.drop (k + 1)) ∧ t.G.drop k = .cons kd' sy' n' kids' (t.G.drop (k + 1)) ∧ Sk = S1 ++ S2 ∧
      (wr.cell? ⟨bF, k * 4, none⟩ = some (.int .i64 kd) ∧ wr.cell? ⟨bF, k * 4 + 1, none⟩ = some (.int .i64 sy) ∧ wr.cell? ⟨bF, k * 4 + 2, none⟩ = some (.int .i64 n) ∧ wr.cell? ⟨bF, k * 4 + 3, none⟩ = some (.slice a kids.len cap)) ∧
      (wr.cell? ⟨bG, oG + k * 4, none⟩ = some (.int .i64 kd') ∧ wr.cell? ⟨bG, oG + k * 4 + 1, none⟩ = some (.int .i64 sy') ∧ wr.cell? ⟨bG, oG + k * 4 + 2, none⟩ = some (.int .i64 n') ∧ wr.cell? ⟨bG, oG + k * 4 + 3, none⟩ = some (.slice a' kids'.len cap')) ∧
      Own1 Wb ⟨a, cap, kids, a', cap', kids', S1⟩ ∧ OwnKids Wb bF ((k + 1) * 4) (t.F.len - (k + 1)) S2 (t.F.drop (k + 1)) := by
  obtain ⟨kd, sy, n, kids, hd, _⟩ := Fo.drop_at k t.F hk
  obtain ⟨kd', sy', n', kids', hd', _⟩ := Fo.drop_at k t.G (by omega)
  have hK := h.kids
  rw [show t.F.len - k = (t.F.len - (k + 1)) + 1 by omega] at hK
  obtain ⟨kd1, sy1, n1, kids1, rest, a, cap, S1, S2, e, eS, c0, c1, c2, c3, g5, g6, g7, g8⟩ := hK.tail _ _ _ _ _ (by rw [hd]; simp [Fo.len])
  rw [hd] at e
  cases e
  have hG := hKG.drop k
  rw [hd'] at hG
  obtain ⟨⟨d0, d1, d2⟩, ⟨a', cap', d3, d4, d5⟩, _⟩ := hG
  rw [show k * 4 + 4 = (k + 1) * 4 by omega] at g8
  refine ⟨kd, sy, n, kids, a, cap, S1, S2, kd', sy', n', kids', a', cap', hd, hd', eS, ⟨?_, ?_, ?_, ?_⟩, ⟨?_, ?_, ?_, ?_⟩, ⟨g5, g6, g7, ⟨d4, d5⟩⟩, g8⟩
  · exact (h.bel.cell (p := ⟨bF, _, none⟩) hBF.lt).trans c0
  · exact (h.bel.cell (p := ⟨bF, _, none⟩) hBF.lt).trans c1
  · exact (h.bel.cell (p := ⟨bF, _, none⟩) hBF.lt).trans c2
  · exact (h.bel.cell (p := ⟨bF, _, none⟩) hBF.lt).trans c3
  · exact (h.bel.cell (p := ⟨bG, _, none⟩) hbG).trans d0
  · exact (h.bel.cell (p := ⟨bG, _, none⟩) hbG).trans d1
  · exact (h.bel.cell (p := ⟨bG, _, none⟩) hbG).trans d2
  · exact (h.bel.cell (p := ⟨bG, _, none⟩) hbG).trans d3

/-- One pair of parts more. -/
theorem InInv.next {Wb wr A3 w' : World} {H M N Bt bF : Nat} {R : Bool} {t : Tw} {v v' : Value} {k : Nat} {L : List Tw} {Sk S1 S2 : List Nat} {kd sy n : Int} {kids kids' : Fo} {a a' : Option Addr} {cap cap' : Nat} (h : InInv Wb H M N Bt bF R t v wr k L Sk)
    (hd : t.F.drop k = .cons kd sy n kids (t.F.drop (k + 1))) (hd' : t.G.drop k = .cons kd sy n kids' (t.G.drop (k + 1))) (hS : Sk = S1 ++ S2) (ho : Own1 Wb ⟨a, cap, kids, a', cap', kids', S1⟩) (hk : OwnKids Wb bF ((k + 1) * 4) (t.F.len - (k + 1)) S2 (t.F.drop (k + 1)))
    (hb3 : Below wr.heap.size wr A3) (r1 : w'.ownsRow Wb.heap.size 50 2 v' (L.length + 1) (twCells L ++ [.slice a kids.len cap, .slice a' kids'.len cap'])) (r2 : A3.grownBy w' v.ownBlock) (r3 : ∀ j, v'.ownBlock = some j → v.ownBlock = some j ∨ A3.heap.size ≤ j) :
    InInv Wb H M N Bt bF R t v' w' (k + 1) (L ++ [⟨a, cap, kids, a', cap', kids', S1⟩]) S2 ∧ mapSize w' H = mapSize wr H := by
  have hrow := h.row.lt
  have hBt : Bt < wr.heap.size := (Array.getElem?_eq_some_iff.1 h.box).1
  obtain ⟨es, c, V, hH, hkeys, hborn, hV, hnd, hms⟩ := h.map.ex
  have hHlt : H < wr.heap.size := (Array.getElem?_eq_some_iff.1 hH).1
  have hH3 := (hb3.block H hHlt).trans hH
  have hrow3 := owns_below h.row hb3
  have hvH : v.ownBlock ≠ some H := by
    intro e
    rcases hrow3.2 with ⟨rfl, _⟩ | ⟨g2, c2, cur, rfl, _, hg, _⟩
    · simp [Value.ownBlock] at e
    · obtain rfl : g2 = H := by simpa [Value.ownBlock] using e
      rw [hH3] at hg
      cases hg
  have hs3 := hb3.size
  have hH' : w'.heap[H]? = some (.map es c) := (r2.5 H (by omega) (fun e => hvH e.symm)).trans hH3
  have hbe : Below Wb.heap.size Wb A3 := h.bel.trans (hb3.mono h.bel.size)
  have hst := size_step' hd
  refine ⟨⟨?_, hbe.grown r2 hbe.size (fun j hj => (hrow j hj).1), ⟨es, c, V, hH', hkeys, hborn, hV, ?_, ?_⟩, ?_, hk, ?_, ?_, ?_, ?_⟩, by rw [mapSize_of hH', mapSize_of hH]⟩
  · rw [twCells_snoc, List.length_append]; exact r1
  · rw [blocks_snoc, List.append_assoc]; rw [hS] at hnd; exact hnd
  · rw [blocks_snoc, List.append_assoc]; rw [hS] at hms; exact hms
  · intro x hx
    rcases List.mem_append.1 hx with hx | hx
    · exact h.own x hx
    · obtain rfl : x = _ := by simpa using hx
      exact ho
  · rw [h.val, eqF_step hd hd', eqX_same, List.all_append]
    simp [Bool.and_assoc]
  · exact (r2.5 Bt (by omega) (fun e => h.apart e.symm)).trans ((hb3.block Bt hBt).trans h.box)
  · intro e
    rcases r3 Bt e with e | e
    · exact h.apart e
    · omega
  · have := h.cnt
    rw [sizes_snoc, List.length_append]
    simp only [List.length_cons, List.length_nil]
    omega

/-- All parts of a pair are behind. -/
theorem InInv.done {Wb wr : World} {H M N Bt bF : Nat} {R : Bool} {t : Tw} {v : Value} {k : Nat} {L : List Tw} {Sk : List Nat} (h : InInv Wb H M N Bt bF R t v wr k L Sk) (hk : ¬ k < t.F.len) (hle : t.F.len = t.G.len) : SameInv Wb H M N R v wr L := by
  have hS : Sk = [] := by
    have := h.kids
    rw [show t.F.len - k = 0 by omega] at this
    exact OwnKids.zero.1 this
  refine ⟨h.row, h.bel, by simpa [hS] using h.map, h.own, ?_, by have := h.cnt; omega⟩
  rw [h.val, eqF_end (by omega) (by omega)]
  simp

end Go.Proofs.YtpokhhplgljmiaaDoor
