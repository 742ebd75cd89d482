/- The laws' draws: what happened, by the bytes that came in. -/
import Derived.Test.YtjahlelgdlbobaaDrawE2
import Derived.Deep.Onto
namespace Go.Proofs.Ytjahlelgdlbobaa
open Go.ChangeShapes Go.WideShapes Go.ChangeAt Go.RowKit
set_option linter.unusedVariables false
set_option maxRecDepth 4000
set_option maxHeartbeats 1000000 in
theorem drawEvsTill_any (a : Option Addr) (cap : Nat) (c : List Int) (w : World) (h : Bytes w a c) (hc : c.length ≤ cap) :
    Calls Try.prog 12 #[.slice a c.length cap] w fun e w' => ∃ (v : Value) (l : List Ev) (t : Int), e = .returned (.tuple #[v, .int .i64 t]) ∧ w'.ownsRow w.heap.size 30 3 v l.length (evCells l) ∧ l.length ≤ 25 ∧ Below w.heap.size w w' := by
  go_enter Try.func12, Try.ntmps12
  go_wp2_with fail
  refine (l14Open_any a cap c w h hc).mono ?_
  rintro e w1 ⟨rfl, hR1, hb1, hs1⟩
  have Hs1 : Hid (w1.heap.size = w.heap.size + 1) := hs1
  have hlt1 : w.heap.size < w1.heap.size := by omega
  clear hs1
  go_wp2_with fail
  refine (l1Bent_any w.heap.size 0 w1 hR1 (by omega)).mono ?_
  rintro e w2 ⟨v, l, p', rfl, hown, hl, _, hR2, hp', hg2⟩
  have hb2 : Below w.heap.size w w2 := hb1.grown hg2 hb1.size (fun k hk => by cases hk; exact Nat.le_refl _)
  have hr : Ints (w2.alloc (.cells #[.int .i64 0, .int .i64 1, .int .i64 3, .int .i64 6, .int .i64 10, .int .i64 2000, .int .i64 (-1)] 3)) _ [0, 1, 3, 6, 10, 2000, -1] := ints_new w2 [0, 1, 3, 6, 10, 2000, -1] (by simp [maxLen]) 3
  have hb3 := eBelow_new w2 (.cells #[.int .i64 0, .int .i64 1, .int .i64 3, .int .i64 6, .int .i64 10, .int .i64 2000, .int .i64 (-1)] 3)
  have hs2 := hg2.4
  go_wp2_with fail
  refine (num_any w.heap.size _ 7 [0, 1, 3, 6, 10, 2000, -1] p' _ (hR2.below hb3) (by omega) hr (by simp) (by simp) (fun q hq => by cases hq; show w2.heap.size ≠ w.heap.size; omega)).mono ?_
  rintro e w3 ⟨t, _, rfl, hR3, hg3⟩
  have hown3 := (eOwns_below hown hb3).kept hg3 (.inr fun e => by have := (hown.lt _ e).1; omega)
  have hb4 : Below w.heap.size w w3 := (hb2.trans (hb3.mono hb2.size)).grown hg3 (Nat.le_trans hb2.size hb3.size) (fun k hk => by cases hk; exact Nat.le_refl _)
  go_wp2
  go_ret2
  exact ⟨v, l, t, rfl, hown3.mono (by omega), hl, hb4⟩
end Go.Proofs.Ytjahlelgdlbobaa
