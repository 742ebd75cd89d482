/- What the functions on a list of events answer: the copy, the comparison, both EvsOk. -/
import Derived.Test.YtpokhhplgljmiaaDoorEv
import Derived.BigQuiet
import Derived.Deep.QuietTactic
import Derived.Deep.RegionWith
import Derived.Outline
import Derived.Deep.Light
namespace Go.Proofs.YtpokhhplgljmiaaDoor
open Go.ChangeShapes Go.WideShapes Go.ChangeAt Go.RowKit
set_option linter.unusedVariables false

/-- The slice whose address is a holds the events l. -/
structure Evs (w : World) (a : Option Addr) (l : List Ev) : Prop where
  len : l.length ≤ maxLen
  cells : 0 < l.length → ∃ b off, a = some ⟨b, off, none⟩ ∧ b < w.heap.size ∧ ∀ i (h : i < l.length),
    w.cell? ⟨b, off + i * 3, none⟩ = some (.int .i64 l[i].sym) ∧ w.cell? ⟨b, off + i * 3 + 1, none⟩ = some (.int .i64 l[i].at') ∧ w.cell? ⟨b, off + i * 3 + 2, none⟩ = some (.int .i64 l[i].val)

theorem Evs.below {w w' : World} {a : Option Addr} {l : List Ev} (h : Evs w a l) (hb : Below w.heap.size w w') : Evs w' a l := by
  refine ⟨h.len, fun hl => ?_⟩
  obtain ⟨b, off, rfl, hlt, hc⟩ := h.cells hl
  refine ⟨b, off, rfl, Nat.lt_of_lt_of_le hlt hb.size, fun i hi => ?_⟩
  obtain ⟨h1, h2, h3⟩ := hc i hi
  exact ⟨by rw [hb.cell hlt]; exact h1, by rw [hb.cell hlt]; exact h2, by rw [hb.cell hlt]; exact h3⟩

def evEqB (x y : Ev) : Bool := decide (x.sym = y.sym ∧ x.at' = y.at' ∧ x.val = y.val)
theorem evEqB_iff (x y : Ev) : evEqB x y = true ↔ x = y := by cases x; cases y; simp [evEqB]

/-- All are ok, each later than the one ahead of it. -/
def okFrom (last : Int) : List Ev → Bool
  | [] => true
  | e :: r => evOkB e.sym e.at' e.val && decide (last < e.at') && okFrom e.at' r
def evsOkB (l : List Ev) : Bool := decide (l.length ≤ 24) && okFrom 0 l

theorem okFrom_step {last : Int} {l : List Ev} {k : Nat} (h : k < l.length) : okFrom last (l.drop k) = (evOkB l[k].sym l[k].at' l[k].val && decide (last < l[k].at') && okFrom l[k].at' (l.drop (k + 1))) := by
  rw [List.drop_eq_getElem_cons h]; rfl
theorem okFrom_end {last : Int} {l : List Ev} {k : Nat} (h : ¬ k < l.length) : okFrom last (l.drop k) = true := by
  rw [List.drop_eq_nil_of_le (by omega)]; rfl

end Go.Proofs.YtpokhhplgljmiaaDoor
