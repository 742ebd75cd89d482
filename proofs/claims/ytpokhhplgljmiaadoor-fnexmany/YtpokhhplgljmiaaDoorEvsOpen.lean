/- A list of events that came in, read as plain data: its address, its length, its events. -/
import Derived.Test.YtpokhhplgljmiaaDoorEvs
import Derived.Deep.Slices
import Derived.Deep.Strs
namespace Go.Proofs.YtpokhhplgljmiaaDoor
open Go.ChangeShapes Go.WideShapes Go.ChangeAt Go.RowKit Go.Deep
set_option linter.unusedVariables false
set_option maxRecDepth 4000

section
variable {H : Type} {enc : TypeId × Value → H} {W : World}

/-- Its numbers are those that an int holds. -/
structure Ev.Wf (e : Ev) : Prop where
  a0 : -9223372036854775808 ≤ e.at'
  a1 : e.at' ≤ 9223372036854775807
  v0 : -9223372036854775808 ≤ e.val
  v1 : e.val ≤ 9223372036854775807

theorem i64_of {n : Int} (h : (Lit.int .i64 n).wf = true) : -9223372036854775808 ≤ n ∧ n ≤ 9223372036854775807 := by simpa [Lit.wf, IntKind.min, IntKind.max, IntKind.signed, IntKind.bits] using h

theorem block_lt {p : Addr} {v : Value} (h : W.cell? p = some v) : p.block < W.heap.size := by
  unfold World.cell? at h
  split at h
  · rename_i hh
    exact (Array.getElem?_eq_some_iff.1 hh).1
  · cases h

end
end Go.Proofs.YtpokhhplgljmiaaDoor
