/- Both EvsText write the same text, at every list of events whose numbers an int holds. -/
import Derived.Test.YtjaneedmhekheaaDoorLetter
import Derived.Test.YtjaneedmhekheaaDoorBuilder
import Derived.Test.YtjaneedmhekheaaDoorEvs2
import Derived.Test.YtjaneedmhekheaaDoorEvsOpen
import Derived.WalkSmall
namespace Go.Proofs.YtjaneedmhekheaaDoor
open Go.ChangeShapes Go.WideShapes Go.ChangeAt Go.RowKit
set_option linter.unusedVariables false

def evText (e : Ev) : List UInt8 := letB e.sym :: (Lib.itoa e.at' ++ (if e.val = 0 then [] else 61 :: Lib.itoa e.val))
def evsText : List Ev → List UInt8
  | [] => []
  | e :: r => evText e ++ r.flatMap (fun x => 32 :: evText x)

theorem evsText_zero {l : List Ev} {k : Nat} (h : k < l.length) (h0 : ¬ 0 < k) : evsText (l.take (k + 1)) = evsText (l.take k) ++ evText l[k] := by
  obtain rfl : k = 0 := by omega
  match l, h with
  | e :: r, _ => simp [evsText]
theorem evsText_succ {l : List Ev} {k : Nat} (h : k < l.length) (h0 : 0 < k) : evsText (l.take (k + 1)) = evsText (l.take k) ++ 32 :: evText l[k] := by
  match l, h with
  | e :: r, h =>
    obtain ⟨j, rfl⟩ : ∃ j, k = j + 1 := ⟨k - 1, by omega⟩
    simp only [List.length_cons] at h
    simp only [List.take_succ_cons, evsText, List.getElem_cons_succ]
    rw [List.take_succ_eq_append_getElem (by omega), List.flatMap_append]
    simp only [List.flatMap_cons, List.flatMap_nil, List.append_nil, List.append_assoc]

theorem evText_len (e : Ev) (h : e.Wf) : (evText e).length ≤ 44 := by
  have h1 := Lib.itoa_length_le e.at' h.a0 h.a1
  have h2 := Lib.itoa_length_le e.val h.v0 h.v1
  unfold evText
  split <;> simp <;> omega
theorem evsText_len : ∀ (l : List Ev), (∀ e ∈ l, e.Wf) → (evsText l).length ≤ 45 * l.length
  | [], _ => by simp [evsText]
  | e :: r, h => by
    have h1 := evText_len e (h e (by simp))
    have h2 : ∀ (r : List Ev), (∀ e ∈ r, e.Wf) → (r.flatMap (fun x => 32 :: evText x)).length ≤ 45 * r.length := by
      intro r
      induction r with
      | nil => simp
      | cons x s ih =>
        intro hw
        have a1 := evText_len x (hw x (by simp))
        have a2 := ih (fun e he => hw e (by simp [he]))
        simp at a2 ⊢
        omega
    have h3 := h2 r (fun e he => h e (by simp [he]))
    simp [evsText] at h3 ⊢
    omega

/-- The library's table of powers is there. -/
def Tab (w : World) : Prop := Lib.TabIs Tryd.prog w "internal/strconv.uint64pow10" .u64 Lib.pow10Tab
theorem glob : Tryd.prog.globalNamed "internal/strconv.uint64pow10" = some 1 := by kernel_rfl
theorem Tab.lt {w : World} (h : Tab w) : 1 < w.heap.size := by
  unfold Tab Lib.TabIs World.var? at h
  rw [glob] at h
  simp only [Option.bind_some] at h
  rcases Nat.lt_or_ge 1 w.heap.size with h' | h'
  · exact h'
  · rw [Array.getElem?_eq_none h'] at h; simp at h
theorem Tab.below {w w' : World} {B : Nat} (h : Tab w) (hb : Below B w w') (hB : 1 < B) : Tab w' := var?_below hb glob hB h

theorem below_grow {w w' : World} (h : ∃ k os, w' = Sort.grow (w.drewN k) os) : Below w.heap.size w w' := by
  obtain ⟨k, os, rfl⟩ := h
  refine ⟨rfl, rfl, rfl, ?_, fun i hi => ?_⟩
  · show w.heap.size ≤ (w.heap ++ os).size
    rw [Array.size_append]; omega
  · show (w.heap ++ os)[i]? = w.heap[i]?
    rw [Array.getElem?_append, if_pos hi]

end Go.Proofs.YtjaneedmhekheaaDoor
