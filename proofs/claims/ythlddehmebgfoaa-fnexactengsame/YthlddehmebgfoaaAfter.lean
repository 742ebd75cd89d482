/- What the functions on one event answer: toEv copies it, both EvOk answer evOkB. No condition. -/
/- What the functions on a list of events answer: the copy, the comparison, both EvsOk. -/
/- A statement whose order is left open and whose callees make new memory alone: one walk in the text's order serves every order. -/
import Derived.Test.YthlddehmebgfoaaRows
import Derived.WalkKit
import Derived.ProofKit
import Derived.OpenShut
import Derived.ShutString
import Derived.ChangeOld
import Derived.Below
import Derived.BigQuiet
import Derived.Deep.QuietTactic
import Derived.Deep.RegionWith
import Derived.Outline
import Derived.Deep.Light
namespace Go.Proofs.Ythlddehmebgfoaa
open Go.ChangeShapes Go.WideShapes Go.ChangeAt Go.RowKit
set_option linter.unusedVariables false

theorem own : ownKnob Try.prog.godebug = none := by kernel_rfl
theorem laidOut : laidOutB Try.prog = true := by kernel_rfl

/-- An event: what, when, with which number. -/
structure Ev where
  sym : Int
  at' : Int
  val : Int

def evV (e : Ev) : Value := .agg #[.int .i64 e.sym, .int .i64 e.at', .int .i64 e.val]

def evOkB (s a v : Int) : Bool := decide (0 ≤ s ∧ s < 5 ∧ 1 ≤ a ∧ a ≤ 1000 ∧ 0 ≤ v ∧ v ≤ 100)
theorem evOkB_yes {s a v : Int} (h : 0 ≤ s ∧ s < 5 ∧ 1 ≤ a ∧ a ≤ 1000 ∧ 0 ≤ v ∧ v ≤ 100) : evOkB s a v = true := by simp [evOkB, h]
theorem evOkB_no {s a v : Int} (h : ¬ (0 ≤ s ∧ s < 5 ∧ 1 ≤ a ∧ a ≤ 1000 ∧ 0 ≤ v ∧ v ≤ 100)) : evOkB s a v = false := decide_eq_false h
theorem ret_bool {a b : Bool} (h : a = b) : Ending.returned (.bool a) = .returned (.bool b) := by rw [h]

set_option maxHeartbeats 400000 in
theorem toEv_any (s a v : Int) (w : World) :
    Calls Try.prog 43 #[.agg #[.int .i64 s, .int .i64 a, .int .i64 v]] w fun e w' => e = .returned (.agg #[.int .i64 s, .int .i64 a, .int .i64 v]) ∧ Below w.heap.size w w' := by
  go_enter Try.func43, Try.ntmps43
  go_wp2
  refine bodyPost_ret (v := .agg #[.int .i64 s, .int .i64 a, .int .i64 v]) (by simp [results, Try.results43, go_sem]) rfl ⟨rfl, ?_⟩
  exact ((((Below.refl _ _).alloc (Nat.le_refl _) _).alloc (by simp) _).alloc (by simp; omega) _)

end Go.Proofs.Ythlddehmebgfoaa
namespace Go.Proofs.Ythlddehmebgfoaa
open Go.ChangeShapes Go.WideShapes Go.ChangeAt Go.RowKit
set_option linter.unusedVariables false

/-- The slice whose address is a holds the events l. -/
structure Evs (w : World) (a : Option Addr) (l : List Ev) : Prop where
  len : l.length ≤ maxLen
  cells : 0 < l.length → ∃ b off, a = some ⟨b, off, none⟩ ∧ b < w.heap.size ∧ ∀ i (h : i < l.length),
    w.cell? ⟨b, off + i * 3, none⟩ = some (.int .i64 l[i].sym) ∧ w.cell? ⟨b, off + i * 3 + 1, none⟩ = some (.int .i64 l[i].at') ∧ w.cell? ⟨b, off + i * 3 + 2, none⟩ = some (.int .i64 l[i].val)

theorem Evs.below {w w' : World} {a : Option Addr} {l : List Ev} (h : Evs w a l) (hb : Below w.heap.size w w') : Evs w' a l := by
  refine ⟨h.len, fun hl => ?_⟩
  obtain ⟨b, off, rfl, hlt, hc⟩ := h.cells hl
  refine ⟨b, off, rfl, Nat.lt_of_lt_of_le hlt hb.size, fun i hi => ?_⟩
  obtain ⟨h1, h2, h3⟩ := hc i hi
  exact ⟨by rw [hb.cell hlt]; exact h1, by rw [hb.cell hlt]; exact h2, by rw [hb.cell hlt]; exact h3⟩

set_option maxHeartbeats 400000 in
theorem szEvS_any (a : Option Addr) (n cap : Nat) (left : Int) (w : World) (hn : n ≤ maxLen) (h0 : 0 ≤ left) (h1 : left ≤ 1048576) :
    Calls Try.prog 11 #[.slice a n cap, .int .i64 left] w fun e w' => e = .returned (.int .i64 (if left - n < 0 then -1 else left - n)) ∧ w' = w := by
  unfold maxLen at hn
  by_cases h : left - n < 0
  · rw [if_pos h]
    go_enter Try.func11, Try.ntmps11
    go_wp2
    go_ret
    exact ⟨rfl, rfl⟩
  · rw [if_neg h]
    go_enter Try.func11, Try.ntmps11
    go_wp2
    go_ret
    exact ⟨rfl, rfl⟩

def evEqB (x y : Ev) : Bool := decide (x.sym = y.sym ∧ x.at' = y.at' ∧ x.val = y.val)
theorem evEqB_iff (x y : Ev) : evEqB x y = true ↔ x = y := by cases x; cases y; simp [evEqB]

set_option maxHeartbeats 400000 in
theorem eqEv_any (x y : Ev) (w : World) :
    Calls Try.prog 53 #[.agg #[.int .i64 x.sym, .int .i64 x.at', .int .i64 x.val], .agg #[.int .i64 y.sym, .int .i64 y.at', .int .i64 y.val]] w fun e w' => e = .returned (.bool (evEqB x y)) ∧ Below w.heap.size w w' := by
  go_enter Try.func53, Try.ntmps53
  go_wp2
  all_goals go_ret
  all_goals refine ⟨ret_bool ?_, ((Below.refl _ _).alloc (Nat.le_refl _) _).alloc (by simp) _⟩
  all_goals go_light
  all_goals simp_all [evEqB]

/-- All are ok, each later than the one ahead of it. -/
def okFrom (last : Int) : List Ev → Bool
  | [] => true
  | e :: r => evOkB e.sym e.at' e.val && decide (last < e.at') && okFrom e.at' r
def evsOkB (l : List Ev) : Bool := decide (l.length ≤ 24) && okFrom 0 l

theorem okFrom_step {last : Int} {l : List Ev} {k : Nat} (h : k < l.length) : okFrom last (l.drop k) = (evOkB l[k].sym l[k].at' l[k].val && decide (last < l[k].at') && okFrom l[k].at' (l.drop (k + 1))) := by
  rw [List.drop_eq_getElem_cons h]; rfl
theorem okFrom_end {last : Int} {l : List Ev} {k : Nat} (h : ¬ k < l.length) : okFrom last (l.drop k) = true := by
  rw [List.drop_eq_nil_of_le (by omega)]; rfl

end Go.Proofs.Ythlddehmebgfoaa
namespace Go.Proofs.Ythlddehmebgfoaa
open Go.RowKit

/-- A world in which nothing that was there in w has turned. -/
structure After (w : World) where
  v : World
  h : Below w.heap.size w v

theorem after_any (w : World) : Nonempty (After w) := ⟨⟨w, Below.refl _ _⟩⟩

theorem After.cell {w : World} (u : After w) {p : Addr} {x : Value} (h : w.cell? p = some x) (hp : p.block < w.heap.size) : u.v.cell? p = some x := by rw [u.h.cell hp]; exact h

theorem wp_region_after {P : Program} {id : Nat} {Q : Exit → Act → World → Prop} {a : Act} {w : World} {l : List Oper} (hm : P.follows .mixedOrders = true) (hB : Region.lexB .any l.toArray = true)
    (h : wpQuiet P l.toArray (fun w' => ∃ u : After w, w' = u.v) (fun a' => ∀ w', (∃ u : After w, w' = u.v) → Q .normal a' w') l a) : (Code.region id l.toArray true).wp P Q a w :=
  wp_region_quiet (C := fun w' => ∃ u : After w, w' = u.v) hm hB ⟨⟨w.drew, (Below.refl _ _).drew⟩, rfl⟩ (by simpa using h)

theorem calls_after {P : Program} {f : FuncId} {args : Array Value} {w : World} {u : After w} {x : Value}
    (h : Calls P f args u.v fun e w' => e = .returned x ∧ Below u.v.heap.size u.v w') : Calls P f args u.v fun e w'' => e = .returned x ∧ ∃ u' : After w, w'' = u'.v :=
  h.mono fun _ w'' ⟨he, hb⟩ => ⟨he, ⟨⟨w'', u.h.trans (hb.mono u.h.size)⟩, rfl⟩⟩
theorem after_of {w w1 : World} (h : ∃ u : After w, w1 = u.v) : Below w.heap.size w w1 := by obtain ⟨u, rfl⟩ := h; exact u.h
end Go.Proofs.Ythlddehmebgfoaa
