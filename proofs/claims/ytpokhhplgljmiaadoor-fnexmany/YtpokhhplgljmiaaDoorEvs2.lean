/- What the functions on a list of events answer: the copy. -/
import Derived.Test.YtpokhhplgljmiaaDoorEvs
import Derived.Test.YtpokhhplgljmiaaDoorAfter
import Derived.Laws.MakeOwn
namespace Go.Proofs.YtpokhhplgljmiaaDoor
open Go.ChangeShapes Go.WideShapes Go.ChangeAt Go.RowKit
set_option linter.unusedVariables false

/-- Block b is a row of events that nobody else holds: the first ones are l. -/
def EvRow (w : World) (b : Nat) (l : List Ev) : Prop :=
  ∃ c t, w.heap[b]? = some (.cells c t (0, 0)) ∧ l.length * 3 ≤ c.size ∧ ∀ i (h : i < l.length), c[i * 3]? = some (.int .i64 l[i].sym) ∧ c[i * 3 + 1]? = some (.int .i64 l[i].at') ∧ c[i * 3 + 2]? = some (.int .i64 l[i].val)

theorem EvRow.evs {w : World} {b : Nat} {l : List Ev} (h : EvRow w b l) (hl : l.length ≤ maxLen) : Evs w (some ⟨b, 0, none⟩) l := by
  obtain ⟨c, t, hb, hs, hc⟩ := h
  refine ⟨hl, fun _ => ⟨b, 0, rfl, (Array.getElem?_eq_some_iff.1 hb).1, fun i hi => ?_⟩⟩
  obtain ⟨h1, h2, h3⟩ := hc i hi
  simp [World.cell?, hb, h1, h2, h3]

theorem EvRow.lt {w : World} {b : Nat} {l : List Ev} (h : EvRow w b l) : b < w.heap.size := by
  obtain ⟨c, t, hb, _⟩ := h
  exact (Array.getElem?_eq_some_iff.1 hb).1

theorem EvRow.of_block {w w' : World} {b : Nat} {l : List Ev} (h : EvRow w b l) (e : w'.heap[b]? = w.heap[b]?) : EvRow w' b l := by
  obtain ⟨c, t, hb, r⟩ := h
  exact ⟨c, t, e.trans hb, r⟩

/-- A row of which the first k events are told, and which has room for n. -/
def EvFill (w : World) (b n : Nat) (l : List Ev) : Prop :=
  ∃ c t, w.heap[b]? = some (.cells c t (0, 0)) ∧ c.size = n * 3 ∧ ∀ i (h : i < l.length), c[i * 3]? = some (.int .i64 l[i].sym) ∧ c[i * 3 + 1]? = some (.int .i64 l[i].at') ∧ c[i * 3 + 2]? = some (.int .i64 l[i].val)

theorem EvFill.of_block {w w' : World} {b n : Nat} {l : List Ev} (h : EvFill w b n l) (e : w'.heap[b]? = w.heap[b]?) : EvFill w' b n l := by
  obtain ⟨c, t, hb, r⟩ := h
  exact ⟨c, t, e.trans hb, r⟩

theorem EvFill.cell {w : World} {b n j : Nat} {l : List Ev} (h : EvFill w b n l) (hj : j < n * 3) : (∃ v, w.cell? ⟨b, j, none⟩ = some v) ∧ w.frozen? ⟨b, j, none⟩ = false := by
  obtain ⟨c, t, hb, hs, _⟩ := h
  constructor
  · exact ⟨c[j]'(by omega), by simp [World.cell?, hb]⟩
  · simp [World.frozen?, hb]

theorem EvFill.next {w : World} {b n : Nat} {l : List Ev} (h : EvFill w b n l) (hl : l.length < n) (e : Ev) :
    EvFill (((w.setCell ⟨b, l.length * 3, none⟩ (.int .i64 e.sym)).setCell ⟨b, l.length * 3 + 1, none⟩ (.int .i64 e.at')).setCell ⟨b, l.length * 3 + 2, none⟩ (.int .i64 e.val)) b n (l ++ [e]) := by
  obtain ⟨c, t, hb, hs, hc⟩ := h
  refine ⟨((c.setIfInBounds (l.length * 3) (.int .i64 e.sym)).setIfInBounds (l.length * 3 + 1) (.int .i64 e.at')).setIfInBounds (l.length * 3 + 2) (.int .i64 e.val), t, ?_, ?_, ?_⟩
  · exact heap_setCell_same _ _ _ _ _ _ (heap_setCell_same _ _ _ _ _ _ (heap_setCell_same _ _ _ _ _ _ hb))
  · simp [hs]
  · intro i hi
    simp only [List.length_append, List.length_cons, List.length_nil] at hi
    by_cases hil : i < l.length
    · obtain ⟨h1, h2, h3⟩ := hc i hil
      rw [List.getElem_append_left hil]
      simp only [Array.getElem?_setIfInBounds]
      refine ⟨?_, ?_, ?_⟩
      · rw [if_neg (by omega), if_neg (by omega), if_neg (by omega)]; exact h1
      · rw [if_neg (by omega), if_neg (by omega), if_neg (by omega)]; exact h2
      · rw [if_neg (by omega), if_neg (by omega), if_neg (by omega)]; exact h3
    · obtain rfl : i = l.length := by omega
      rw [List.getElem_append_right (Nat.le_refl _)]
      simp only [Array.getElem?_setIfInBounds, Array.size_setIfInBounds]
      refine ⟨?_, ?_, ?_⟩
      · rw [if_neg (by omega), if_neg (by omega), if_pos trivial, if_pos (by omega)]; simp
      · rw [if_neg (by omega), if_pos trivial, if_pos (by omega)]; simp
      · rw [if_pos trivial, if_pos (by omega)]; simp

def zeros (n : Nat) : Array Value := madeCells #[.int .i64 0, .int .i64 0, .int .i64 0] (n * 3)

def evsEqB : List Ev → List Ev → Bool
  | [], [] => true
  | x :: r, y :: s => evEqB x y && evsEqB r s
  | _, _ => false

theorem evsEqB_iff : ∀ (a b : List Ev), evsEqB a b = true ↔ a = b
  | [], [] => by simp [evsEqB]
  | [], _ :: _ => by simp [evsEqB]
  | _ :: _, [] => by simp [evsEqB]
  | x :: r, y :: s => by simp [evsEqB, evEqB_iff, evsEqB_iff r s]
theorem evsEqB_self (a : List Ev) : evsEqB a a = true := (evsEqB_iff a a).2 rfl
theorem evsEqB_len {a b : List Ev} (h : a.length ≠ b.length) : evsEqB a b = false := by
  rw [Bool.eq_false_iff]; intro e; exact h (by rw [(evsEqB_iff a b).1 e])
theorem evsEqB_step {a b : List Ev} {k : Nat} (h : k < a.length) (h' : k < b.length) : evsEqB (a.drop k) (b.drop k) = (evEqB a[k] b[k] && evsEqB (a.drop (k + 1)) (b.drop (k + 1))) := by
  rw [List.drop_eq_getElem_cons h, List.drop_eq_getElem_cons h']; rfl
theorem evsEqB_end {a b : List Ev} {k : Nat} (h : ¬ k < a.length) (h' : a.length = b.length) : evsEqB (a.drop k) (b.drop k) = true := by
  rw [List.drop_eq_nil_of_le (by omega), List.drop_eq_nil_of_le (by omega)]; rfl

theorem okFrom_zero {l : List Ev} {k : Nat} (h : k < l.length) (la : Int) (hla : la ≤ 0) : okFrom la (l.drop k) = (evOkB l[k].sym l[k].at' l[k].val && okFrom l[k].at' (l.drop (k + 1))) := by
  rw [okFrom_step h]
  cases he : evOkB l[k].sym l[k].at' l[k].val
  · rfl
  · have : 1 ≤ l[k].at' := by simp [evOkB] at he; omega
    rw [decide_eq_true (show la < l[k].at' by omega)]; rfl

/-- The time of the one ahead of place k. -/
def prev (l : List Ev) (k : Nat) : Int := match k with | 0 => 0 | j + 1 => (l[j]?.map (·.at')).getD 0
theorem prev_succ {l : List Ev} {k : Nat} (h : k < l.length) : prev l (k + 1) = l[k].at' := by simp [prev, h]

end Go.Proofs.YtpokhhplgljmiaaDoor
