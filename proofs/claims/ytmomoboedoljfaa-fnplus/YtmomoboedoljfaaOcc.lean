/- Where something was found, as plain data; where it lies in memory; the laws' helpers at one. -/
import Derived.Test.YtmomoboedoljfaaInts
namespace Go.Proofs.Ytmomoboedoljfaa
open Go.ChangeShapes Go.WideShapes Go.ChangeAt Go.RowKit
set_option linter.unusedVariables false
set_option maxRecDepth 4000

/-- A place: from when, till when, of which events. -/
structure Occ where
  fr : Int
  tl : Int
  ids : List Int

/-- What is left of a number when so many were counted: below 0 is -1. -/
def szDown (left : Int) (n : Nat) : Int := if left - n < 0 then -1 else left - n

/-- A row of numbers of which the first ones are told, and which has room for n. -/
def IntFill (w : World) (b n : Nat) (l : List Int) : Prop :=
  ∃ c t, w.heap[b]? = some (.cells c t (0, 0)) ∧ c.size = n ∧ ∀ i (h : i < l.length), c[i]? = some (.int .i64 l[i])
theorem IntFill.cell {w : World} {b n j : Nat} {l : List Int} (h : IntFill w b n l) (hj : j < n) : (∃ v, w.cell? ⟨b, j, none⟩ = some v) ∧ w.frozen? ⟨b, j, none⟩ = false := by
  obtain ⟨c, t, hb, hs, _⟩ := h
  exact ⟨⟨c[j]'(by omega), by simp [World.cell?, hb]⟩, by simp [World.frozen?, hb]⟩
theorem IntFill.next {w : World} {b n : Nat} {l : List Int} (h : IntFill w b n l) (hl : l.length < n) (e : Int) : IntFill (w.setCell ⟨b, l.length, none⟩ (.int .i64 e)) b n (l ++ [e]) := by
  obtain ⟨c, t, hb, hs, hc⟩ := h
  refine ⟨c.setIfInBounds l.length (.int .i64 e), t, heap_setCell_same _ _ _ _ _ _ hb, by simp [hs], ?_⟩
  intro i hi
  simp only [List.length_append, List.length_cons, List.length_nil] at hi
  by_cases hil : i < l.length
  · rw [List.getElem_append_left hil]
    simp only [Array.getElem?_setIfInBounds]
    rw [if_neg (by omega)]; exact hc i hil
  · obtain rfl : i = l.length := by omega
    rw [List.getElem_append_right (Nat.le_refl _)]
    simp only [Array.getElem?_setIfInBounds]
    rw [if_pos trivial, if_pos (by omega)]; simp

def zerosInt (n : Nat) : Array Value := madeCells #[.int .i64 0] (n * 1)
theorem make_ints (n : Nat) (hn : n ≤ 1048576) (w : World) :
    (Instr.makeSlice 30 (.int .i64 n) (.int .i64 n)).run Try.prog w = .ok (.slice (some ⟨w.heap.size, 0, none⟩) n n) (w.alloc (.cells (zerosInt n) 3)) := by
  obtain ⟨i, h, h1, h2, h3⟩ := info_int_parts
  have := run_make (P := Try.prog) w 30 3 i (.int .i64 0) Try.underlying30 h h1 .i64 .i64 n n (by omega) (by omega) (by rw [h3]; omega) (by omega)
  rw [this, h2]
  rfl

theorem oCell {w : World} {b : Nat} {c : Array Value} {t : TypeId} {f : Nat × Nat} (h : w.heap[b]? = some (.cells c t f)) (o : Nat) : w.cell? ⟨b, o, none⟩ = c[o]? := by simp [World.cell?, h]
theorem oAlloc3_third (w : World) (A B C : Obj) : (((w.alloc A).alloc B).alloc C).heap[w.heap.size + 1 + 1]? = some C := by
  have := heap_alloc_new ((w.alloc A).alloc B) C
  simpa only [World.size_alloc] using this
theorem oAlloc3_second (w : World) (A B C : Obj) : (((w.alloc A).alloc B).alloc C).heap[w.heap.size + 1]? = some B := by
  have := heap_alloc_new (w.alloc A) B
  rw [World.size_alloc] at this
  exact (Below.heap_alloc _ _ _ (by simp)).trans this

theorem IntOwn.of_row {w : World} {B b : Nat} {l : List Int} (h : IntRow w b l) (hB : B ≤ b) (hl : l.length ≤ maxLen) : IntOwn w B (some ⟨b, 0, none⟩) l :=
  ⟨hl, fun x hx => by cases hx; exact hB, fun _ => ⟨b, rfl, hB, by obtain ⟨c, t, hb, _⟩ := h; exact (Array.getElem?_eq_some_iff.1 hb).1, h⟩⟩

/-- What the copy of one hands back: its numbers in a row of their own, the block b. -/
def CopyO (w : World) (f t : Int) (l : List Int) (e : Ending) (w' : World) : Prop :=
  ∃ b, e = .returned (.agg #[.int .i64 f, .int .i64 t, .slice (some ⟨b, 0, none⟩) l.length l.length]) ∧ IntRow w' b l ∧ w.heap.size ≤ b ∧ b < w'.heap.size ∧ Below w.heap.size w w'

def occEqB (f t : Int) (l : List Int) (f' t' : Int) (l' : List Int) : Bool := decide (f = f' ∧ t = t') && intsEqB l l'
theorem occEqB_self (f t : Int) (l : List Int) : occEqB f t l f t l = true := by simp [occEqB, intsEqB_self]
theorem occEqB_iff (f t : Int) (l : List Int) (f' t' : Int) (l' : List Int) : occEqB f t l f' t' l' = true ↔ f = f' ∧ t = t' ∧ l = l' := by simp [occEqB, intsEqB_iff, and_assoc]

end Go.Proofs.Ytmomoboedoljfaa
