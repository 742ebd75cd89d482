/- The list of all parts: what the program's exList answers. -/
import Derived.Test.YtpokhhplgljmiaaDoorExR
import Derived.Test.YtpokhhplgljmiaaDoorEx7
import Derived.RangeFuncBox
import Derived.RecoverIn
import Derived.Maps.AppendAt
import Derived.Laws.EntriesVeiled
namespace Go.Proofs.YtpokhhplgljmiaaDoor
open Go.ChangeShapes Go.WideShapes Go.ChangeAt Go.RowKit
set_option linter.unusedVariables false

set_option maxHeartbeats 400000 in
theorem exParts_any (kd sy n : Int) (s : Value) (w : World) :
    Calls Tryd.prog 32 #[.agg #[.int .i64 kd, .int .i64 sy, .int .i64 n, s]] w fun e w' => e = .returned (.func (.func 40) #[] #[.pointer (some ⟨w.heap.size, 0, none⟩)]) ∧ w' = w.alloc (.cells #[.int .i64 kd, .int .i64 sy, .int .i64 n, s] 25) := by
  have hmf : ∀ (fn : Fn) (first cap : Array Value) (w : World), (Instr.makeFunc fn first cap).run Tryd.prog w = .ok (.func fn first cap) w := fun _ _ _ _ => rfl
  go_enter Tryd.func32, Tryd.ntmps32
  go_wp2
  go_ret
  exact ⟨rfl, rfl⟩

set_option maxRecDepth 4000 in
set_option maxHeartbeats 1000000 in
/-- The function that is ranged over: all parts, or a panic. -/
theorem exIter_any (w0 : World) (l Bx : Nat) (t : TypeId) (v : Value) (W : World) (J : Option Nat → List Hd → World → Prop) (hE : ErrAt w0 t v) (hb : Below w0.heap.size w0 W) (hJ : ∀ r, Abides W.heap.size (J r))
    (hJl : ∀ r pre A, J r pre A → r ≠ some W.heap.size ∧ ∀ k, r = some k → k < A.heap.size)
    (hY : ∀ k r pre x A, J r pre A → Below w0.heap.size w0 A → pre.length < 12 → W.heap.size < A.heap.size → YieldAt Fence.wide k Tryd.prog l #[Hd.val x] A fun e A' => e = .returned (.bool true) ∧ (∃ r', J r' (pre ++ [x]) A') ∧ Below w0.heap.size w0 A' ∧ A.heap.size ≤ A'.heap.size ∧
      ∀ b, W.heap.size ≤ b → b < A.heap.size → r ≠ some b → A'.heap[b]? = A.heap[b]?)
    (kd sy n : Int) (a : Option Addr) (cap : Nat) (F : Fo) (hF : Slc w0 a F) (hx : ∃ f, W.heap[Bx]? = some (.cells #[.int .i64 kd, .int .i64 sy, .int .i64 n, .slice a F.len cap] 25 f))
    (h0 : ∀ o, J none [] (W.alloc o)) :
    Calls Tryd.prog 40 #[.func (.yield l) #[] #[], .pointer (some ⟨Bx, 0, none⟩)] W fun e A' =>
      Below w0.heap.size w0 A' ∧ ((okP 5 0 kd sy n F = true ∧ (∃ u, e = .returned u) ∧ ∃ q r', q.map Hd.tri = (kd, sy, n) :: preF F ∧ J r' q A') ∨
        (okP 5 0 kd sy n F = false ∧ e = .panicked [{ v := .iface t v, recovered := false }] ∧ ∃ q r', J r' q A')) := by
  obtain ⟨f, hx⟩ := hx
  have hxl : Bx < W.heap.size := (Array.getElem?_eq_some_iff.1 hx).1
  obtain ⟨W1, hW1⟩ : ∃ W1, W.alloc (.cells #[.func (.yield l) #[] #[], .int .i64 0] 84) = W1 := ⟨_, rfl⟩
  have hb1 : Below W.heap.size W W1 := by rw [← hW1]; exact bel1 _ _
  have hx1 : W1.heap[Bx]? = _ := (hb1.block Bx hxl).trans hx
  have c0 := cell_at hx1 0
  have c1 := cell_at hx1 1
  have c2 := cell_at hx1 2
  have c3 := cell_at hx1 3
  simp at c0 c1 c2 c3
  have hw1 : Walk W1 W.heap.size l ((0 : Nat) : Int) := by rw [← hW1]; exact heap_alloc_new W _
  have hp := part_any w0 W.heap.size l t v J hE hb.size hJ hJl hY 5 (by omega) kd sy n a cap F 0 none [] W1 hF (by rw [← hW1]; exact h0 _) (hb.trans (hb1.mono hb.size)) hw1 rfl (by omega)
  have h65 : ((6 : Int) - ((5 : Nat) : Int)) = 1 := by omega
  rw [h65] at hp
  clear hx hx1
  subst hW1
  go_enter Tryd.func40, Tryd.ntmps40
  go_wp2_with fail
  refine hp.mono ?_
  rintro e A' ⟨hb', ⟨ho, rfl, _, q, r', hq, hj⟩ | ⟨ho, rfl, q, r', hj⟩⟩
  · go_wp2
    go_end0
    exact ⟨hb', .inl ⟨ho, ⟨_, rfl⟩, q, r', hq, by simpa using hj⟩⟩
  · go_wp2
    exact ⟨rfl, hb', .inr ⟨ho, rfl, q, r', by simpa using hj⟩⟩
end Go.Proofs.YtpokhhplgljmiaaDoor
