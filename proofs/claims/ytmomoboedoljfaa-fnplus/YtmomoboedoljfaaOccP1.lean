/- Lists of places in rows of their own: what is kept; copies. -/
import Derived.Test.YtmomoboedoljfaaOccs2
import Derived.ArgAppend
import Derived.Laws.OwnMore
import Derived.Deep.Onto
import Derived.OwnWalk
import Derived.Laws.Cover3
namespace Go.Proofs.Ytmomoboedoljfaa
open Go.ChangeShapes Go.WideShapes Go.ChangeAt Go.RowKit
set_option linter.unusedVariables false
set_option maxRecDepth 4000

/-- An append to an owned row: where the new row lies. -/
theorem oAppend_where {P : Program} (w : World) (base : Nat) (t ty e : TypeId) (i : TypeInfo) (z : Value) (size bytes : Nat) (ht : P.underlying t = some (.slice e)) (hi : P.info? e = some i) (hz : i.zero = some z)
    (hsize : i.size = size) (hby : i.bytes = bytes) (hzs : z.cells.size = size) (hsz : 0 < size)
    (v : Value) (n : Nat) (xs : List Value) (hown : w.ownsRow base e size v n xs)
    (a : Addr) (m c : Nat) (news : List Value) (hl : news.length = m * size) (hnews : ∀ j u, news[j]? = some u → w.cell? (a.add j) = some u) (h1 : ∀ u ∈ news, u.oneCell' = true)
    (h63 : n + m ≤ maxLen) (hbytes : (n + m) * bytes ≤ 140737488355328) (hbase : base ≤ w.heap.size) :
    ∃ v' w', (Builtin.append_ #[t, t] ty #[v, .slice (some a) m c]).run P w = .ok v' w' ∧ w'.ownsRow base e size v' (n + m) (xs ++ news) ∧ w.grownBy w' v.ownBlock ∧ ∀ k, v'.ownBlock = some k → v.ownBlock = some k ∨ w.heap.size ≤ k := by
  rcases hown.2 with ⟨rfl, rfl⟩ | ⟨g, cap, cur, rfl, hb, hg, hn, hcm, hcs, htk⟩
  · obtain rfl : xs = [] := List.eq_nil_of_length_eq_zero (by simpa using hown.1)
    obtain ⟨v', w', r, r1, r2, _⟩ := run_append_own (P := P) w w.heap.size t ty e i z size bytes ht hi hz hsize hby hzs hsz (.slice none 0 0) 0 [] (World.ownsRow_nil _ _ _ _) a m c news hl hnews h1 h63 hbytes (Nat.le_refl _)
    exact ⟨v', w', r, r1.mono hbase, r2, fun k hk => .inr (r1.lt k hk).1⟩
  · by_cases hr : cap < n + m
    · have hcell : ∀ j u, xs[j]? = some u → w.cell? ((⟨g, 0, none⟩ : Addr).add j) = some u := by
        intro j u hj
        have hjl : j < n * size := by rw [← hown.1]; exact (List.getElem?_eq_some_iff.1 hj).1
        rw [← htk, List.getElem?_take, if_pos hjl] at hj
        rw [add_plain]
        simp only [Nat.zero_add]
        rw [oCell hg]
        rwa [Array.getElem?_toList] at hj
      obtain ⟨v', w', r, r1, r2⟩ := run_append_arg_grows (P := P) w t ty e i z size bytes ht hi hz hsize hby hzs hsz ⟨g, 0, none⟩ n cap xs hown.1 hcell a m c news hl hnews hr h63 hbytes
      exact ⟨v', w', r, r1.mono hbase, ⟨r2.1, r2.2, r2.3, r2.4, fun k h _ => r2.5 k h (by simp)⟩, fun k hk => .inr (r1.lt k hk).1⟩
    · obtain ⟨w', r, r1, r2⟩ := run_append_fits (P := P) w base t ty e i size ht hi hsize g n cap xs hown a m c news hl hnews h1 (by omega)
      exact ⟨_, w', r, r1, r2, fun k hk => .inl hk⟩


theorem pOwns_below {w w' : World} {B : Nat} {e : TypeId} {z : Nat} {v : Value} {n : Nat} {xs : List Value} (h : w.ownsRow B e z v n xs) (hb : Below w.heap.size w w') : w'.ownsRow B e z v n xs :=
  h.kept (row := none) ⟨hb.os, hb.tape, hb.output, hb.size, fun i hi _ => hb.block i hi⟩ (by cases v.ownBlock <;> simp)
theorem pOwns_slice {w : World} {B : Nat} {e : TypeId} {z : Nat} {v : Value} {n : Nat} {xs : List Value} (h : w.ownsRow B e z v n xs) : ∃ a cap, v = .slice a n cap := by
  rcases h.2 with ⟨rfl, hn⟩ | ⟨g, cap, cur, rfl, _⟩
  · exact ⟨none, 0, by rw [hn]⟩
  · exact ⟨_, cap, rfl⟩
theorem pOwn_of_row {w : World} {B : Nat} {t : TypeId} {a : Option Addr} {n cap : Nat} {l : List Int} (h : w.ownsRow B t 1 (.slice a n cap) l.length (intCells l)) : IntOwn w B a l := by
  obtain ⟨a', cap', e, ho⟩ := intOwn_of h
  cases e
  exact ho

/-- A place with the slice of its numbers. -/
structure OC where
  o : Occ
  a : Option Addr
  c : Nat
def OC.v (x : OC) : List Value := [.int .i64 x.o.fr, .int .i64 x.o.tl, .slice x.a x.o.ids.length x.c]
def ocCells (L : List OC) : List Value := L.flatMap OC.v
theorem ocCells_length (L : List OC) : (ocCells L).length = L.length * 3 := by
  induction L with
  | nil => rfl
  | cons x r ih =>
    have e : ocCells (x :: r) = x.v ++ ocCells r := by simp [ocCells]
    have e3 : x.v.length = 3 := rfl
    rw [e, List.length_append, ih, e3, List.length_cons]
    omega
theorem ocCells_snoc (L : List OC) (x : OC) : ocCells (L ++ [x]) = ocCells L ++ x.v := by simp [ocCells]
theorem ocCells_append (L M : List OC) : ocCells (L ++ M) = ocCells L ++ ocCells M := by simp [ocCells]
theorem ocCells_get : ∀ (L : List OC) (i : Nat) (h : i < L.length), (ocCells L)[i * 3]? = some (.int .i64 L[i].o.fr) ∧ (ocCells L)[i * 3 + 1]? = some (.int .i64 L[i].o.tl) ∧ (ocCells L)[i * 3 + 2]? = some (.slice L[i].a L[i].o.ids.length L[i].c)
  | x :: r, 0, _ => by simp [ocCells, OC.v]
  | x :: r, i + 1, h => by
    have ih := ocCells_get r i (by simpa using h)
    have : ocCells (x :: r) = x.v ++ ocCells r := by simp [ocCells]
    rw [this, show (i + 1) * 3 = i * 3 + 3 by omega]
    simpa [OC.v] using ih
/-- The numbers of two lie in two blocks. -/
def OC.Apart (x y : OC) : Prop := ∀ p q, x.a = some p → y.a = some q → p.block ≠ q.block
/-- The slice v is a row of the call's own, from B on: the places L, the numbers of each in a row of their own. -/
structure OccsOwn (w : World) (B : Nat) (v : Value) (L : List OC) : Prop where
  row : w.ownsRow B 32 3 v L.length (ocCells L)
  one : ∀ x ∈ L, IntOwn w B x.a x.o.ids
  lt : ∀ x ∈ L, ∀ p, x.a = some p → p.block < w.heap.size
  off : ∀ x ∈ L, ∀ p, x.a = some p → v.ownBlock ≠ some p.block
  apart : L.Pairwise OC.Apart
theorem OccsOwn.below {w w' : World} {B : Nat} {v : Value} {L : List OC} (h : OccsOwn w B v L) (hb : Below w.heap.size w w') : OccsOwn w' B v L :=
  ⟨pOwns_below h.row hb, fun x hx => (h.one x hx).below hb, fun x hx p hp => Nat.lt_of_lt_of_le (h.lt x hx p hp) hb.size, h.off, h.apart⟩
theorem OccsOwn.occs {w : World} {B : Nat} {a : Option Addr} {n cap : Nat} {L : List OC} (h : OccsOwn w B (.slice a n cap) L) : Occs w a (L.map (·.o)) := by
  rcases h.row.2 with ⟨e, hn⟩ | ⟨g, cap', cur, e, hb, hg, hnc, hcm, hcs, htk⟩
  · obtain rfl : L = [] := List.eq_nil_of_length_eq_zero hn
    exact Occs.nil _ _
  · cases e
    refine ⟨by simp; omega, fun _ => ⟨g, 0, rfl, (Array.getElem?_eq_some_iff.1 hg).1, fun i hi => ?_⟩⟩
    simp only [List.length_map] at hi
    obtain ⟨h1, h2, h3⟩ := ocCells_get L i hi
    rw [← htk, List.getElem?_take, if_pos (by omega), Array.getElem?_toList] at h1 h2 h3
    refine ⟨by rw [oCell hg]; simpa using h1, by rw [oCell hg]; simpa using h2, L[i].a, L[i].c, by rw [oCell hg]; simpa using h3, ?_⟩
    have := (h.one L[i] (List.getElem_mem hi)).ints
    simpa using this
/-- One more behind the others. -/
theorem OccsOwn.snoc {w w' : World} {B : Nat} {v v' : Value} {L : List OC} {x : OC} (h : OccsOwn w B v L) (hx : IntOwn w B x.a x.o.ids) (hxl : ∀ p, x.a = some p → p.block < w.heap.size) (hxo : ∀ p, x.a = some p → v.ownBlock ≠ some p.block)
    (hxa : ∀ y ∈ L, y.Apart x) (r1 : w'.ownsRow B 32 3 v' (L.length + 1) (ocCells L ++ x.v)) (r2 : w.grownBy w' v.ownBlock) (r3 : ∀ k, v'.ownBlock = some k → v.ownBlock = some k ∨ w.heap.size ≤ k) : OccsOwn w' B v' (L ++ [x]) := by
  have hmem : ∀ y ∈ L ++ [x], IntOwn w B y.a y.o.ids ∧ (∀ p, y.a = some p → p.block < w.heap.size) ∧ (∀ p, y.a = some p → v.ownBlock ≠ some p.block) := by
    intro y hy
    rcases List.mem_append.1 hy with hy | hy
    · exact ⟨h.one y hy, h.lt y hy, h.off y hy⟩
    · simp at hy; subst hy; exact ⟨hx, hxl, hxo⟩
  refine ⟨by rw [ocCells_snoc, List.length_append]; exact r1, fun y hy => (hmem y hy).1.only r2 (fun p hp => (hmem y hy).2.2 p hp), fun y hy p hp => Nat.lt_of_lt_of_le ((hmem y hy).2.1 p hp) r2.size, fun y hy p hp e => ?_, ?_⟩
  · rcases r3 _ e with h1 | h1
    · exact (hmem y hy).2.2 p hp h1
    · have := (hmem y hy).2.1 p hp; omega
  · refine List.pairwise_append.2 ⟨h.apart, List.pairwise_singleton _ _, fun y hy z hz => ?_⟩
    simp at hz
    subst hz
    exact hxa y hy

/-- What the copy of one hands back: its numbers in a row of their own, new behind w. -/
def CopyC (w : World) (o : Occ) (e : Ending) (w' : World) : Prop :=
  ∃ a c, e = .returned (.agg #[.int .i64 o.fr, .int .i64 o.tl, .slice a o.ids.length c]) ∧ IntOwn w' w.heap.size a o.ids ∧ (∀ p, a = some p → p.block < w'.heap.size) ∧ Below w.heap.size w w'

theorem pKeep_set {w : World} {b c o p : Nat} {v : Value} (h : c ≠ b) : (w.setCell ⟨b, p, none⟩ v).cell? ⟨c, o, none⟩ = w.cell? ⟨c, o, none⟩ :=
  World.cell?_of_block (w := w) (Below.heap_setCell _ _ _ _ h)
/-- The box of a place and of the result. -/
structure Boxes2 (w w2 : World) (o : Occ) (a : Option Addr) (cap : Nat) : Prop where
  bel : Below w.heap.size w w2
  A : Box3 w2 w.heap.size (.int .i64 o.fr) (.int .i64 o.tl) (.slice a o.ids.length cap)
  R : ∃ t, w2.heap[w.heap.size + 1]? = some (.cells #[.int .i64 0, .int .i64 0, .slice none 0 0] t (0, 0))
theorem Boxes2.new (w : World) (o : Occ) (a : Option Addr) (cap : Nat) (T : TypeId) :
    Boxes2 w ((w.alloc (.cells #[.int .i64 o.fr, .int .i64 o.tl, .slice a o.ids.length cap] T)).alloc (.cells #[.int .i64 0, .int .i64 0, .slice none 0 0] T)) o a cap := by
  have b0 := oBelow_new w (.cells #[.int .i64 o.fr, .int .i64 o.tl, .slice a o.ids.length cap] T)
  have b1 := oBelow_new (w.alloc (.cells #[.int .i64 o.fr, .int .i64 o.tl, .slice a o.ids.length cap] T)) (.cells #[.int .i64 0, .int .i64 0, .slice none 0 0] T)
  refine ⟨b0.trans (b1.mono b0.size), (box3_new w _ _ _ T).below b1, ⟨T, ?_⟩⟩
  have := heap_alloc_new (w.alloc (.cells #[.int .i64 o.fr, .int .i64 o.tl, .slice a o.ids.length cap] T)) (.cells #[.int .i64 0, .int .i64 0, .slice none 0 0] T)
  simpa only [World.size_alloc] using this
theorem Boxes2.below {w w2 w3 : World} {o : Occ} {a : Option Addr} {cap : Nat} (h : Boxes2 w w2 o a cap) (hb : Below w2.heap.size w2 w3) : Boxes2 w w3 o a cap := by
  refine ⟨h.bel.trans (hb.mono h.bel.size), h.A.below hb, ?_⟩
  obtain ⟨t, hr⟩ := h.R
  exact ⟨t, (hb.block _ (Array.getElem?_eq_some_iff.1 hr).1).trans hr⟩
theorem Boxes2.drew {w w2 : World} {o : Occ} {a : Option Addr} {cap : Nat} (h : Boxes2 w w2 o a cap) : Boxes2 w w2.drew o a cap := ⟨h.bel.drew, h.A, h.R⟩
theorem Boxes2.res {w w2 : World} {o : Occ} {a : Option Addr} {cap : Nat} (h : Boxes2 w w2 o a cap) :
    (w2.cell? ⟨w.heap.size + 1, 0, none⟩ = some (.int .i64 0) ∧ w2.cell? ⟨w.heap.size + 1, 1, none⟩ = some (.int .i64 0) ∧ w2.cell? ⟨w.heap.size + 1, 2, none⟩ = some (.slice none 0 0)) ∧
    (∀ o, w2.frozen? ⟨w.heap.size + 1, o, none⟩ = false) ∧ w.heap.size + 1 < w2.heap.size := by
  obtain ⟨t, hr⟩ := h.R
  exact ⟨⟨oCell hr 0, oCell hr 1, oCell hr 2⟩, fun o => by simp [World.frozen?, hr], (Array.getElem?_eq_some_iff.1 hr).1⟩
/-- The answer, laid into the result's box. -/
theorem copyC_set {w w3 : World} {B : Nat} {o : Occ} {a : Option Addr} {c : Nat} {t : TypeId} (hB : w.heap.size + 1 < B) (own : w3.ownsRow B t 1 (.slice a o.ids.length c) o.ids.length (intCells o.ids)) (k : Below w.heap.size w w3) :
    CopyC w o (.returned (.agg #[.int .i64 o.fr, .int .i64 o.tl, .slice a o.ids.length c])) (((w3.setCell ⟨w.heap.size + 1, 0, none⟩ (.int .i64 o.fr)).setCell ⟨w.heap.size + 1, 1, none⟩ (.int .i64 o.tl)).setCell ⟨w.heap.size + 1, 2, none⟩ (.slice a o.ids.length c)) := by
  have hs : (((w3.setCell ⟨w.heap.size + 1, 0, none⟩ (.int .i64 o.fr)).setCell ⟨w.heap.size + 1, 1, none⟩ (.int .i64 o.tl)).setCell ⟨w.heap.size + 1, 2, none⟩ (.slice a o.ids.length c)).heap.size = w3.heap.size := by simp
  have hk : ∀ g, g ≠ w.heap.size + 1 → (((w3.setCell ⟨w.heap.size + 1, 0, none⟩ (.int .i64 o.fr)).setCell ⟨w.heap.size + 1, 1, none⟩ (.int .i64 o.tl)).setCell ⟨w.heap.size + 1, 2, none⟩ (.slice a o.ids.length c)).heap[g]? = w3.heap[g]? := by
    intro g hg
    rw [Below.heap_setCell _ _ _ _ hg, Below.heap_setCell _ _ _ _ hg, Below.heap_setCell _ _ _ _ hg]
  have oi := pOwn_of_row own
  refine ⟨a, c, rfl, ⟨oi.len, fun x hx => by have := oi.ge x hx; omega, fun hl => ?_⟩, fun p hp => ?_, ((k.setCell (by simp) _).setCell (by simp) _).setCell (by simp) _⟩
  · obtain ⟨b, e, h1, h2, h3⟩ := oi.row hl
    exact ⟨b, e, by omega, by omega, h3.of_block (hk b (by omega))⟩
  · rw [hs]; subst hp; exact (own.lt _ rfl).2

theorem ints_cells {w : World} {a : Option Addr} {l : List Int} {b off : Nat} (h : Ints w a l) (e : a = some ⟨b, off, none⟩) : ∀ j u, (intCells l)[j]? = some u → w.cell? ((⟨b, off, none⟩ : Addr).add j) = some u := by
  intro j u hj
  have hjl : j < l.length := by have := (List.getElem?_eq_some_iff.1 hj).1; simpa [intCells] using this
  obtain ⟨b', off', e', _, hc⟩ := h.cells (by omega)
  rw [e] at e'
  cases e'
  have := hc j hjl
  simp [intCells, hjl] at hj
  subst hj
  rw [add_plain]
  exact this
theorem intCells_one (l : List Int) : ∀ u ∈ intCells l, u.oneCell' = true := by
  intro u hu
  simp [intCells] at hu
  obtain ⟨n, _, rfl⟩ := hu
  rfl

set_option maxHeartbeats 1000000 in
theorem clone_any (a : Option Addr) (cap : Nat) (l : List Int) (w : World) (h : Ints w a l) (h0 : 0 < l.length) (hn : l.length ≤ 1048576) :
    Calls Try.prog 48 #[.slice a l.length cap] w fun e w' => ∃ v, e = .returned v ∧ w'.ownsRow w.heap.size 3 1 v l.length (intCells l) ∧ Below w.heap.size w w' := by
  obtain ⟨i0, hi, hz0, hz1, hz2⟩ := info_int_parts
  obtain ⟨b, off, rfl, hbl, hc⟩ := h.cells h0
  have heq : (binOp .eql 30 (.slice (some ⟨b, off, none⟩) l.length cap) (.slice none 0 0)).run Try.prog w = .ok (.bool false) w := by
    simp only [binOp]
    simp [run_equal_slice_nil w _ _ _ _ _ Try.underlying30]
  go_enter Try.func48, Try.ntmps48
  go_wp2_with (at_builtin; refine wpList_append_own _ rfl _ _ 30 rfl w.heap.size 3 i0 (.int .i64 0) 1 8 Try.underlying30 hi hz0 hz1 hz2 rfl (by decide) _ 0 [] rfl (World.ownsRow_made _ _ _ (Nat.le_refl _) (by simp [maxLen]) rfl) ⟨b, off, none⟩ l.length cap (intCells l) rfl (by simp [intCells]) ?c1 ?c2 ?c3 ?c4 ?c5 ?_)
  case c1 => exact ints_cells (h.below (oBelow_new _ _)) rfl
  case c2 => exact intCells_one l
  case c3 => unfold maxLen; omega
  case c4 => omega
  case c5 => simp
  intro v' w1 hown' hgr _
  have hbe : Below w.heap.size w w1 := ((Below.refl _ _).alloc (Nat.le_refl _) _).grown hgr (by simp) (fun x hx => by simp [Value.ownBlock] at hx; omega)
  go_wp2
  go_ret
  refine ⟨_, rfl, ?_, hbe⟩
  simpa using hown'

set_option maxHeartbeats 1000000 in
theorem l3Copy_any (o : Occ) (a : Option Addr) (cap : Nat) (w : World) (h : Ints w a o.ids) (h0 : 0 < o.ids.length) (hn : o.ids.length ≤ 1048576) :
    Calls Try.prog 44 #[.agg #[.int .i64 o.fr, .int .i64 o.tl, .slice a o.ids.length cap]] w (CopyC w o) := by
  obtain ⟨i0, hi, hz0, hz1, hz2⟩ := info_int_parts
  have hB := Boxes2.new w o a cap 32
  obtain ⟨w2, hw2⟩ : ∃ w2, (w.alloc (.cells #[.int .i64 o.fr, .int .i64 o.tl, .slice a o.ids.length cap] 32)).alloc (.cells #[.int .i64 0, .int .i64 0, .slice none 0 0] 32) = w2 := ⟨_, rfl⟩
  rw [hw2] at hB
  have hBd := hB.drew
  have hRl : w.heap.size + 1 < w2.drew.heap.size := hB.res.2.2
  have hal := oBelow_new w2.drew (.cells #[] 3)
  have hB2 := hBd.below hal
  obtain ⟨b, off, rfl, hbl, hc⟩ := (h.below hB2.bel).cells h0
  obtain ⟨v', w3, hrun, r1, r2, r3⟩ := oAppend_where (P := Try.prog) (w2.drew.alloc (.cells #[] 3)) w2.drew.heap.size 30 30 3 i0 (.int .i64 0) 1 8 Try.underlying30 hi hz0 hz1 hz2 rfl (by decide) (.slice (some ⟨w2.drew.heap.size, 0, none⟩) 0 0) 0 [] (World.ownsRow_made _ _ _ (Nat.le_refl _) (by simp [maxLen]) rfl) ⟨b, off, none⟩ o.ids.length cap (intCells o.ids) (by simp [intCells]) (ints_cells (h.below hB2.bel) rfl) (intCells_one o.ids) (by unfold maxLen; omega) (by omega) (by simp)
  have hb3 : Below w2.drew.heap.size w2.drew w3 := hal.grown r2 (by simp) (fun x hx => by cases hx; exact Nat.le_refl _)
  have hB3 := hBd.below hb3
  have hown : w3.ownsRow w2.drew.heap.size 3 1 v' o.ids.length (intCells o.ids) := by simpa using r1
  obtain ⟨a3, cap3, rfl⟩ := pOwns_slice hown
  obtain ⟨r0, r1', r2'⟩ := hB3.A.cells
  obtain ⟨⟨z0, z1, z2⟩, fz, zl⟩ := hB3.res
  obtain ⟨p0, p1, p2⟩ := hB.A.cells
  simp [go_sem] at hrun
  clear r1 r2 r3 hc
  go_enter Try.func44, Try.ntmps44
  go_wp2_with fail
  go_region_held (fun v => v.cell? ⟨w.heap.size, 0, none⟩ = some (.int .i64 o.fr) ∧ v.cell? ⟨w.heap.size, 1, none⟩ = some (.int .i64 o.tl) ∧ v.cell? ⟨w.heap.size, 2, none⟩ = some (.slice (some ⟨b, off, none⟩) o.ids.length cap)) (first | (go_keep; done) | (simp only [pKeep_set (show w.heap.size ≠ w.heap.size + 1 by omega)]; exact ⟨by assumption, by assumption, by assumption⟩)) (fail)
  go_wp2
  refine bodyPost_ret (v := .agg #[.int .i64 o.fr, .int .i64 o.tl, .slice a3 o.ids.length cap3]) (by simp [results, Try.results44, go_sem, z0, z1, z2]) rfl ?_
  exact copyC_set hRl hown hB3.bel

set_option maxHeartbeats 1000000 in
theorem occCopy_any (o : Occ) (a : Option Addr) (cap : Nat) (w : World) (h : Ints w a o.ids) (h0 : 0 < o.ids.length) (hn : o.ids.length ≤ 1048576) :
    Calls Try.prog 27 #[.agg #[.int .i64 o.fr, .int .i64 o.tl, .slice a o.ids.length cap]] w (CopyC w o) := by
  have hB := Boxes2.new w o a cap 32
  obtain ⟨w2, hw2⟩ : ∃ w2, (w.alloc (.cells #[.int .i64 o.fr, .int .i64 o.tl, .slice a o.ids.length cap] 32)).alloc (.cells #[.int .i64 0, .int .i64 0, .slice none 0 0] 32) = w2 := ⟨_, rfl⟩
  rw [hw2] at hB
  have hBd := hB.drew
  have hRl : w.heap.size + 1 < w2.drew.heap.size := hB.res.2.2
  obtain ⟨p0, p1, p2⟩ := hB.A.cells
  go_enter Try.func27, Try.ntmps27
  go_wp2_with fail
  go_region_held (fun v => v.cell? ⟨w.heap.size, 0, none⟩ = some (.int .i64 o.fr) ∧ v.cell? ⟨w.heap.size, 1, none⟩ = some (.int .i64 o.tl) ∧ v.cell? ⟨w.heap.size, 2, none⟩ = some (.slice a o.ids.length cap)) (first | (go_keep; done) | (simp only [pKeep_set (show w.heap.size ≠ w.heap.size + 1 by omega)]; exact ⟨by assumption, by assumption, by assumption⟩))
    (first
      | (go_at_call 48; refine (clone_any _ _ o.ids _ (h.below hBd.bel) h0 hn).mono ?_; rintro e w3 ⟨v, rfl, hown, hb3⟩; obtain ⟨a3, cap3, rfl⟩ := pOwns_slice hown; have hB3 := hBd.below hb3; obtain ⟨r0, r1, r2⟩ := hB3.A.cells; obtain ⟨⟨z0, z1, z2⟩, fz, zl⟩ := hB3.res))
  go_wp2
  refine bodyPost_ret (v := .agg #[.int .i64 o.fr, .int .i64 o.tl, .slice a3 o.ids.length cap3]) (by simp [results, Try.results27, go_sem, z0, z1, z2]) rfl ?_
  exact copyC_set hRl hown hB3.bel
end Go.Proofs.Ytmomoboedoljfaa
