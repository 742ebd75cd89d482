/- The laws' copy of what is looked for: rows of its own. -/
import Derived.Test.YtpokhhplgljmiaaDoorEx2
namespace Go.Proofs.YtpokhhplgljmiaaDoor
open Go.ChangeShapes Go.WideShapes Go.ChangeAt Go.RowKit
set_option linter.unusedVariables false
set_option maxRecDepth 4000

theorem info_ex : (Tryd.prog.info? 25).map (fun i => (i.zero, i.size, i.bytes)) = some (some (.agg #[.int .i64 0, .int .i64 0, .int .i64 0, .slice none 0 0]), 4, 48) := by kernel_rfl

def zerosEx (n : Nat) : Array Value := madeCells #[.int .i64 0, .int .i64 0, .int .i64 0, .slice none 0 0] (n * 4)

theorem make_exs (n : Nat) (hn : n ≤ 1048576) (w : World) :
    (Instr.makeSlice 23 (.int .i64 n) (.int .i64 n)).run Tryd.prog w = .ok (.slice (some ⟨w.heap.size, 0, none⟩) n n) (w.alloc (.cells (zerosEx n) 25)) := by
  have hi := info_ex
  cases h : Tryd.prog.info? 25 with
  | none => rw [h] at hi; simp at hi
  | some i =>
    rw [h] at hi
    simp at hi
    obtain ⟨h1, h2, h3⟩ := hi
    have := run_make (P := Tryd.prog) w 23 25 i (.agg #[.int .i64 0, .int .i64 0, .int .i64 0, .slice none 0 0]) Tryd.underlying23 h h1 .i64 .i64 n n (by omega) (by omega) (by rw [h3]; omega) (by omega)
    rw [this, h2]
    rfl

/-- What the copy of a list hands back. -/
def CopyS (w : World) (F : Fo) (e : Ending) (w' : World) : Prop :=
  ∃ S, e = .returned (.slice (some ⟨w.heap.size, 0, none⟩) F.len F.len) ∧ RowOwn w' w.heap.size w.heap.size S F ∧ Below w.heap.size w w'
/-- What the copy of one hands back. -/
def Copy (w : World) (kd sy n : Int) (F : Fo) (e : Ending) (w' : World) : Prop :=
  ∃ b S, e = .returned (.agg #[.int .i64 kd, .int .i64 sy, .int .i64 n, .slice (some ⟨b, 0, none⟩) F.len F.len]) ∧ RowOwn w' w.heap.size b S F ∧ Below w.heap.size w w'

theorem RowOwn.low {w : World} {B B' b : Nat} {S : List Nat} {F : Fo} (h : RowOwn w B b S F) (hB : B' ≤ B) : RowOwn w B' b S F :=
  ⟨h.blk, h.own, h.apart, fun x hx => Nat.le_trans hB (h.ge x hx), h.len⟩

theorem alloc3_third (w : World) (A B C : Obj) : (((w.alloc A).alloc B).alloc C).heap[w.heap.size + 1 + 1]? = some C := by
  have := heap_alloc_new ((w.alloc A).alloc B) C
  simpa only [World.size_alloc] using this
theorem alloc3_second (w : World) (A B C : Obj) : (((w.alloc A).alloc B).alloc C).heap[w.heap.size + 1]? = some B := by
  have := heap_alloc_new (w.alloc A) B
  rw [World.size_alloc] at this
  exact (Below.heap_alloc _ _ _ (by simp)).trans this

end Go.Proofs.YtpokhhplgljmiaaDoor
