/- A list of events in a row of its own; the marks that are written into it and read of it. -/
import Derived.Test.YtpokhhplgljmiaaDoorEvs2
import Derived.OwnWalk
namespace Go.Proofs.YtpokhhplgljmiaaDoor
open Go.ChangeShapes Go.WideShapes Go.ChangeAt Go.RowKit
set_option linter.unusedVariables false

def evCells (l : List Ev) : List Value := l.flatMap fun e => [.int .i64 e.sym, .int .i64 e.at', .int .i64 e.val]
theorem evCells_length (l : List Ev) : (evCells l).length = l.length * 3 := by
  induction l with
  | nil => rfl
  | cons e r ih => simp [evCells] at ih ⊢; omega
theorem evCells_snoc (l : List Ev) (e : Ev) : evCells (l ++ [e]) = evCells l ++ [.int .i64 e.sym, .int .i64 e.at', .int .i64 e.val] := by simp [evCells]
theorem evCells_get : ∀ (l : List Ev) (i : Nat) (h : i < l.length), (evCells l)[i * 3]? = some (.int .i64 l[i].sym) ∧ (evCells l)[i * 3 + 1]? = some (.int .i64 l[i].at') ∧ (evCells l)[i * 3 + 2]? = some (.int .i64 l[i].val)
  | e :: r, 0, _ => by simp [evCells]
  | e :: r, i + 1, h => by
    have ih := evCells_get r i (by simpa using h)
    have : evCells (e :: r) = [.int .i64 e.sym, .int .i64 e.at', .int .i64 e.val] ++ evCells r := by simp [evCells]
    rw [this, show (i + 1) * 3 = i * 3 + 3 by omega]
    simpa using ih

/-- The slice with the address a holds the events l in a row of its own, from block B on. -/
structure EvOwn (w : World) (B : Nat) (a : Option Addr) (l : List Ev) : Prop where
  len : l.length ≤ maxLen
  ge : ∀ x, a = some x → B ≤ x.block
  row : 0 < l.length → ∃ b, a = some ⟨b, 0, none⟩ ∧ B ≤ b ∧ b < w.heap.size ∧ EvRow w b l

theorem EvOwn.evs {w : World} {B : Nat} {a : Option Addr} {l : List Ev} (h : EvOwn w B a l) : Evs w a l := by
  refine ⟨h.len, fun hl => ?_⟩
  obtain ⟨b, rfl, _, _, hr⟩ := h.row hl
  exact (hr.evs h.len).cells hl

theorem EvOwn.below {w w' : World} {B : Nat} {a : Option Addr} {l : List Ev} (h : EvOwn w B a l) (hb : Below w.heap.size w w') : EvOwn w' B a l := by
  refine ⟨h.len, h.ge, fun hl => ?_⟩
  obtain ⟨b, rfl, hB, hlt, hr⟩ := h.row hl
  exact ⟨b, rfl, hB, Nat.lt_of_lt_of_le hlt hb.size, hr.of_block (hb.block b hlt)⟩

theorem EvOwn.of_row {w : World} {b : Nat} {l : List Ev} (h : EvRow w b l) (hl : l.length ≤ maxLen) : EvOwn w b (some ⟨b, 0, none⟩) l :=
  ⟨hl, fun x hx => by cases hx; exact Nat.le_refl _, fun _ => ⟨b, rfl, Nat.le_refl _, by obtain ⟨c, t, hb, _⟩ := h; exact (Array.getElem?_eq_some_iff.1 hb).1, h⟩⟩

theorem evOwn_of {w : World} {B : Nat} {v : Value} {t : TypeId} {l : List Ev} (h : w.ownsRow B t 3 v l.length (evCells l)) : ∃ a cap, v = .slice a l.length cap ∧ EvOwn w B a l := by
  rcases h.2 with ⟨rfl, hn⟩ | ⟨g, cap, cur, rfl, hb, hg, hnc, hcm, hcs, htk⟩
  · exact ⟨none, 0, by rw [hn], ⟨by omega, by simp, by omega⟩⟩
  · refine ⟨_, cap, rfl, ⟨by omega, fun x hx => by cases hx; exact hb, fun _ => ⟨g, rfl, hb, (Array.getElem?_eq_some_iff.1 hg).1, cur, t, hg, by rw [hcs]; omega, fun i hi => ?_⟩⟩⟩
    obtain ⟨h1, h2, h3⟩ := evCells_get l i hi
    rw [← htk, List.getElem?_take, if_pos (by omega)] at h1 h2 h3
    rw [Array.getElem?_toList] at h1 h2 h3
    exact ⟨h1, h2, h3⟩

theorem Evs.only {w w' : World} {a : Option Addr} {l : List Ev} {row : Option Nat} (h : Evs w a l) (hg : w.grownBy w' row) (hne : ∀ x, a = some x → row ≠ some x.block) : Evs w' a l := by
  refine ⟨h.len, fun hl => ?_⟩
  obtain ⟨b, off, rfl, hlt, hc⟩ := h.cells hl
  have hk := hg.block b hlt (fun e => hne _ rfl e.symm)
  refine ⟨b, off, rfl, Nat.lt_of_lt_of_le hlt hg.size, fun i hi => ?_⟩
  obtain ⟨h1, h2, h3⟩ := hc i hi
  have e : ∀ o, w'.cell? ⟨b, o, none⟩ = w.cell? ⟨b, o, none⟩ := fun o => World.cell?_of_block (w := w) hk
  exact ⟨(e _).trans h1, (e _).trans h2, (e _).trans h3⟩

theorem EvOwn.only {w w' : World} {B : Nat} {a : Option Addr} {l : List Ev} {row : Option Nat} (h : EvOwn w B a l) (hg : w.grownBy w' row) (hne : ∀ x, a = some x → row ≠ some x.block) : EvOwn w' B a l := by
  refine ⟨h.len, h.ge, fun hl => ?_⟩
  obtain ⟨b, rfl, hB, hlt, hr⟩ := h.row hl
  exact ⟨b, rfl, hB, Nat.lt_of_lt_of_le hlt hg.size, hr.of_block (hg.block b hlt (fun e => hne _ rfl e.symm))⟩

def mark (k : Int) (i : Nat) : Ev := ⟨k + 3 * i, k + 3 * i + 1, k + 3 * i + 1 + 1⟩
def marks (k : Int) (n : Nat) : List Ev := (List.range n).map (mark k)
theorem marks_length (k : Int) (n : Nat) : (marks k n).length = n := by simp [marks]
theorem marks_get (k : Int) (n i : Nat) (h : i < (marks k n).length) : (marks k n)[i] = mark k i := by simp [marks]

/-- The first j are marked. -/
def half (k : Int) (l : List Ev) (j : Nat) : List Ev := marks k j ++ l.drop j
theorem half_length (k : Int) (l : List Ev) (j : Nat) (h : j ≤ l.length) : (half k l j).length = l.length := by simp [half, marks_length]; omega
theorem half_zero (k : Int) (l : List Ev) : half k l 0 = l := by simp [half, marks]
theorem half_full (k : Int) (l : List Ev) : half k l l.length = marks k l.length := by simp [half]
theorem half_set (k : Int) (l : List Ev) (j : Nat) (h : j < l.length) : (half k l j).set j (mark k j) = half k l (j + 1) := by
  unfold half
  rw [List.set_append, if_neg (by rw [marks_length]; omega), marks_length, Nat.sub_self, List.drop_eq_getElem_cons h]
  rw [List.set_cons_zero]
  simp [marks, List.range_succ]

theorem EvRow.set3 {w : World} {b : Nat} {l : List Ev} (h : EvRow w b l) {j : Nat} (hj : j < l.length) (e : Ev) :
    EvRow (((w.setCell ⟨b, j * 3, none⟩ (.int .i64 e.sym)).setCell ⟨b, j * 3 + 1, none⟩ (.int .i64 e.at')).setCell ⟨b, j * 3 + 2, none⟩ (.int .i64 e.val)) b (l.set j e) := by
  obtain ⟨c, t, hb, hs, hc⟩ := h
  refine ⟨((c.setIfInBounds (j * 3) (.int .i64 e.sym)).setIfInBounds (j * 3 + 1) (.int .i64 e.at')).setIfInBounds (j * 3 + 2) (.int .i64 e.val), t, ?_, ?_, ?_⟩
  · exact heap_setCell_same _ _ _ _ _ _ (heap_setCell_same _ _ _ _ _ _ (heap_setCell_same _ _ _ _ _ _ hb))
  · simpa using hs
  · intro i hi
    rw [List.length_set] at hi
    simp only [List.getElem_set, Array.getElem?_setIfInBounds, Array.size_setIfInBounds]
    by_cases hil : j = i
    · subst hil
      simp only [if_true]
      refine ⟨?_, ?_, ?_⟩
      · rw [if_neg (by omega), if_neg (by omega), if_pos (by omega)]
      · rw [if_neg (by omega), if_pos (by omega)]
      · rw [if_pos (by omega)]
    · obtain ⟨h1, h2, h3⟩ := hc i hi
      rw [if_neg hil]
      refine ⟨?_, ?_, ?_⟩
      · rw [if_neg (by omega), if_neg (by omega), if_neg (by omega)]; exact h1
      · rw [if_neg (by omega), if_neg (by omega), if_neg (by omega)]; exact h2
      · rw [if_neg (by omega), if_neg (by omega), if_neg (by omega)]; exact h3

theorem EvRow.facts {w : World} {b : Nat} {l : List Ev} (h : EvRow w b l) {j : Nat} (hj : j < l.length) :
    (∃ v, w.cell? ⟨b, j * 3, none⟩ = some v) ∧ (∃ v, w.cell? ⟨b, j * 3 + 1, none⟩ = some v) ∧ (∃ v, w.cell? ⟨b, j * 3 + 2, none⟩ = some v) ∧
    w.frozen? ⟨b, j * 3, none⟩ = false ∧ w.frozen? ⟨b, j * 3 + 1, none⟩ = false ∧ w.frozen? ⟨b, j * 3 + 2, none⟩ = false := by
  obtain ⟨c, t, hb, hs, hc⟩ := h
  obtain ⟨h1, h2, h3⟩ := hc j hj
  refine ⟨⟨.int .i64 l[j].sym, ?_⟩, ⟨.int .i64 l[j].at', ?_⟩, ⟨.int .i64 l[j].val, ?_⟩, ?_, ?_, ?_⟩
  · simpa [World.cell?, hb] using h1
  · simpa [World.cell?, hb] using h2
  · simpa [World.cell?, hb] using h3
  · simp [World.frozen?, hb]
  · simp [World.frozen?, hb]
  · simp [World.frozen?, hb]

theorem grownBy_refl (w : World) (r : Option Nat) : w.grownBy w r := ⟨rfl, rfl, rfl, Nat.le_refl _, fun _ _ _ => rfl⟩
theorem grownBy_trans {w w' w'' : World} {r : Option Nat} (h : w.grownBy w' r) (k : w'.grownBy w'' r) : w.grownBy w'' r :=
  ⟨k.os.trans h.os, k.tape.trans h.tape, k.output.trans h.output, Nat.le_trans h.size k.size, fun i hi hr => (k.block i (Nat.lt_of_lt_of_le hi h.size) hr).trans (h.block i hi hr)⟩
theorem grownBy_setCell {w w' : World} {b o : Nat} (h : w.grownBy w' (some b)) (v : Value) : w.grownBy (w'.setCell ⟨b, o, none⟩ v) (some b) :=
  grownBy_trans h ⟨rfl, rfl, rfl, by simp [World.setCell], fun i hi hr => Below.heap_setCell _ _ _ _ (fun e => hr (by rw [e]))⟩

/-- Marks in a row from block B on turn nothing of what lies below B. -/
theorem mark_below {w w' : World} {B B' : Nat} {a : Option Addr} {l : List Ev} (h : EvOwn w B a l) (hg : w.grownBy w' (a.map (·.block))) (hB : B' ≤ B) (hs : B' ≤ w.heap.size) : Below B' w w' :=
  (Below.refl B' w).grown hg hs (fun k hk => by
    cases a with
    | none => simp at hk
    | some x => simp at hk; have := h.ge x rfl; omega)

theorem Evs.lower {w w' : World} {B : Nat} {a : Option Addr} {l : List Ev} (h : Evs w a l) (hlt : ∀ x, a = some x → 0 < l.length → x.block < B) (hb : Below B w w') : Evs w' a l := by
  refine ⟨h.len, fun hl => ?_⟩
  obtain ⟨b, off, rfl, hbl, hc⟩ := h.cells hl
  have hbB : b < B := hlt _ rfl hl
  refine ⟨b, off, rfl, Nat.lt_of_lt_of_le hbl hb.size, fun i hi => ?_⟩
  obtain ⟨h1, h2, h3⟩ := hc i hi
  exact ⟨by rw [hb.cell hbB]; exact h1, by rw [hb.cell hbB]; exact h2, by rw [hb.cell hbB]; exact h3⟩

theorem Evs.lt {w : World} {a : Option Addr} {l : List Ev} (h : Evs w a l) : ∀ x, a = some x → 0 < l.length → x.block < w.heap.size := by
  intro x hx hl
  obtain ⟨b, off, e, hb, _⟩ := h.cells hl
  rw [e] at hx; cases hx; exact hb
end Go.Proofs.YtpokhhplgljmiaaDoor
