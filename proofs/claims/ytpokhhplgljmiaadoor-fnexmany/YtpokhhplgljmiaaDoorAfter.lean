/- A statement whose order is left open and whose callees make new memory alone: one walk in the text's order serves every order. -/
import Derived.WalkKit
import Derived.ProofKit
import Derived.Below
import Derived.BigQuiet
namespace Go.Proofs.YtpokhhplgljmiaaDoor
open Go.RowKit

/-- A world in which nothing that was there in w has turned. -/
structure After (w : World) where
  v : World
  h : Below w.heap.size w v

theorem after_any (w : World) : Nonempty (After w) := ⟨⟨w, Below.refl _ _⟩⟩

theorem After.cell {w : World} (u : After w) {p : Addr} {x : Value} (h : w.cell? p = some x) (hp : p.block < w.heap.size) : u.v.cell? p = some x := by rw [u.h.cell hp]; exact h

theorem wp_region_after {P : Program} {id : Nat} {Q : Exit → Act → World → Prop} {a : Act} {w : World} {l : List Oper} (hm : P.follows .mixedOrders = true) (hB : Region.lexB .any l.toArray = true)
    (h : wpQuiet P l.toArray (fun w' => ∃ u : After w, w' = u.v) (fun a' => ∀ w', (∃ u : After w, w' = u.v) → Q .normal a' w') l a) : (Code.region id l.toArray true).wp P Q a w :=
  wp_region_quiet (C := fun w' => ∃ u : After w, w' = u.v) hm hB ⟨⟨w.drew, (Below.refl _ _).drew⟩, rfl⟩ (by simpa using h)

theorem calls_after {P : Program} {f : FuncId} {args : Array Value} {w : World} {u : After w} {x : Value}
    (h : Calls P f args u.v fun e w' => e = .returned x ∧ Below u.v.heap.size u.v w') : Calls P f args u.v fun e w'' => e = .returned x ∧ ∃ u' : After w, w'' = u'.v :=
  h.mono fun _ w'' ⟨he, hb⟩ => ⟨he, ⟨⟨w'', u.h.trans (hb.mono u.h.size)⟩, rfl⟩⟩
theorem after_of {w w1 : World} (h : ∃ u : After w, w1 = u.v) : Below w.heap.size w w1 := by obtain ⟨u, rfl⟩ := h; exact u.h
end Go.Proofs.YtpokhhplgljmiaaDoor
