/- The laws' copy of what is looked for: rows of its own. -/
/- The laws' comparison of what is looked for. -/
import Derived.Test.YtcaodkkomoaphaaDoorEx2
namespace Go.Proofs.YtcaodkkomoaphaaDoor
open Go.ChangeShapes Go.WideShapes Go.ChangeAt Go.RowKit
set_option linter.unusedVariables false
set_option maxRecDepth 4000

theorem info_ex : (Tryd.prog.info? 30).map (fun i => (i.zero, i.size, i.bytes)) = some (some (.agg #[.int .i64 0, .int .i64 0, .int .i64 0, .slice none 0 0]), 4, 48) := by kernel_rfl

def zerosEx (n : Nat) : Array Value := madeCells #[.int .i64 0, .int .i64 0, .int .i64 0, .slice none 0 0] (n * 4)

theorem make_exs (n : Nat) (hn : n ≤ 1048576) (w : World) :
    (Instr.makeSlice 28 (.int .i64 n) (.int .i64 n)).run Tryd.prog w = .ok (.slice (some ⟨w.heap.size, 0, none⟩) n n) (w.alloc (.cells (zerosEx n) 30)) := by
  have hi := info_ex
  cases h : Tryd.prog.info? 30 with
  | none => rw [h] at hi; simp at hi
  | some i =>
    rw [h] at hi
    simp at hi
    obtain ⟨h1, h2, h3⟩ := hi
    have := run_make (P := Tryd.prog) w 28 30 i (.agg #[.int .i64 0, .int .i64 0, .int .i64 0, .slice none 0 0]) Tryd.underlying28 h h1 .i64 .i64 n n (by omega) (by omega) (by rw [h3]; omega) (by omega)
    rw [this, h2]
    rfl

/-- What the copy of a list hands back. -/
def CopyS (w : World) (F : Fo) (e : Ending) (w' : World) : Prop :=
  ∃ S, e = .returned (.slice (some ⟨w.heap.size, 0, none⟩) F.len F.len) ∧ RowOwn w' w.heap.size w.heap.size S F ∧ Below w.heap.size w w'
/-- What the copy of one hands back. -/
def Copy (w : World) (kd sy n : Int) (F : Fo) (e : Ending) (w' : World) : Prop :=
  ∃ b S, e = .returned (.agg #[.int .i64 kd, .int .i64 sy, .int .i64 n, .slice (some ⟨b, 0, none⟩) F.len F.len]) ∧ RowOwn w' w.heap.size b S F ∧ Below w.heap.size w w'

theorem RowOwn.low {w : World} {B B' b : Nat} {S : List Nat} {F : Fo} (h : RowOwn w B b S F) (hB : B' ≤ B) : RowOwn w B' b S F :=
  ⟨h.blk, h.own, h.apart, fun x hx => Nat.le_trans hB (h.ge x hx), h.len⟩

theorem alloc3_third (w : World) (A B C : Obj) : (((w.alloc A).alloc B).alloc C).heap[w.heap.size + 1 + 1]? = some C := by
  have := heap_alloc_new ((w.alloc A).alloc B) C
  simpa only [World.size_alloc] using this
theorem alloc3_second (w : World) (A B C : Obj) : (((w.alloc A).alloc B).alloc C).heap[w.heap.size + 1]? = some B := by
  have := heap_alloc_new (w.alloc A) B
  rw [World.size_alloc] at this
  exact (Below.heap_alloc _ _ _ (by simp)).trans this

end Go.Proofs.YtcaodkkomoaphaaDoor
namespace Go.Proofs.YtcaodkkomoaphaaDoor
open Go.ChangeShapes Go.WideShapes Go.ChangeAt Go.RowKit
set_option linter.unusedVariables false
set_option maxRecDepth 4000

def eqF : Fo → Fo → Bool
  | .nil, .nil => true
  | .cons kd sy n k r, .cons kd' sy' n' k' r' => decide (kd = kd' ∧ sy = sy' ∧ n = n') && eqF k k' && eqF r r'
  | _, _ => false
theorem eqF_iff : ∀ a b : Fo, eqF a b = true ↔ a = b
  | .nil, .nil => by simp [eqF]
  | .nil, .cons .. => by simp [eqF]
  | .cons .., .nil => by simp [eqF]
  | .cons kd sy n k r, .cons kd' sy' n' k' r' => by simp [eqF, eqF_iff k k', eqF_iff r r', and_assoc]
theorem eqF_self (a : Fo) : eqF a a = true := (eqF_iff a a).2 rfl
theorem eqF_len {a b : Fo} (h : a.len ≠ b.len) : eqF a b = false := by
  rw [Bool.eq_false_iff]; intro e; exact h (by rw [(eqF_iff a b).1 e])
/-- One: its numbers and its parts. -/
def eqX (kd sy n : Int) (k : Fo) (kd' sy' n' : Int) (k' : Fo) : Bool := decide (kd = kd' ∧ sy = sy' ∧ n = n') && eqF k k'
theorem eqF_step {F F' : Fo} {k : Nat} {kd sy n kd' sy' n' : Int} {kids kids' : Fo} (h : F.drop k = .cons kd sy n kids (F.drop (k + 1))) (h' : F'.drop k = .cons kd' sy' n' kids' (F'.drop (k + 1))) :
    eqF (F.drop k) (F'.drop k) = (eqX kd sy n kids kd' sy' n' kids' && eqF (F.drop (k + 1)) (F'.drop (k + 1))) := by
  rw [h, h']; rfl
theorem eqF_end {F F' : Fo} {k : Nat} (h : F.len ≤ k) (h' : F'.len ≤ k) : eqF (F.drop k) (F'.drop k) = true := by
  rw [Fo.drop_end k F h, Fo.drop_end k F' h']; rfl

theorem eqX_self (kd sy n : Int) (F : Fo) : eqX kd sy n F kd sy n F = true := by simp [eqX, eqF_self]
end Go.Proofs.YtcaodkkomoaphaaDoor
