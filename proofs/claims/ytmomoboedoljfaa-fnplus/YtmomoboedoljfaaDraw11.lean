/- The laws' draws of chapter 5: a list, a delay and a time. -/
import Derived.Test.YtmomoboedoljfaaDraw10
namespace Go.Proofs.Ytmomoboedoljfaa
open Go.ChangeShapes Go.WideShapes Go.ChangeAt Go.RowKit
set_option linter.unusedVariables false
set_option maxRecDepth 4000
set_option maxHeartbeats 1000000 in
theorem drawPlusOf_any (a : Option Addr) (cap : Nat) (c : List Int) (w : World) (h : Bytes w a c) (hc : c.length ≤ cap) : Calls Try.prog 11 #[.slice a c.length cap] w
    fun e w' => ∃ (a1 : Option Addr) (c1 : Nat) (l : List Occ) (n t : Int), e = .returned (.tuple #[.slice a1 l.length c1, .int .i64 n, .int .i64 t]) ∧ l.length ≤ 7 ∧ Occs w' a1 l ∧ 0 ≤ n ∧ n ≤ 21 ∧ -1 ≤ t ∧ t ≤ 2000 ∧ Below w.heap.size w w' := by
  go_enter Try.func11, Try.ntmps11
  go_wp2_with fail
  refine (l14Open_any a cap c w h hc).mono ?_
  rintro e w1 ⟨rfl, hR1, hb1, hs1⟩
  have hlt1 : w.heap.size < w1.heap.size := by omega
  clear hs1
  go_wp2_with fail
  refine (l3Bent_any w.heap.size 0 w1 hR1 (by omega)).mono ?_
  rintro e w2 ⟨a2, c2, p2, m, rfl, hm, hocc, _, hR2, hp2, hg2, _, _⟩
  have b2 : Below w.heap.size w w2 := hb1.grown hg2 hb1.size (fun k hk => by cases hk; exact Nat.le_refl _)
  have hs2 := hg2.size
  have Hocc : Hid (∀ u : World, w2.heap.size ≤ u.heap.size → (∀ i, w1.heap.size ≤ i → i < w2.heap.size → u.heap[i]? = w2.heap[i]?) → Occs u a2 m) := hocc
  clear hocc
  have hal := oBelow_new w2 (.cells #[.int .i64 1, .int .i64 2, .int .i64 5, .int .i64 20, .int .i64 0, .int .i64 21] 3)
  have hlit := own_lit (w := w2) (B := w2.heap.size) [1, 2, 5, 20, 0, 21] 3 (Nat.le_refl _) (by simp)
  go_wp2_with fail
  refine (num_any w.heap.size _ 6 [1, 2, 5, 20, 0, 21] p2 _ (hR2.below hal) (by omega) hlit.ints (by simp) (by simp) (fun q hq => by cases hq; show w2.heap.size ≠ w.heap.size; omega)).mono ?_
  rintro e w3 ⟨n, hn, rfl, hR3, hg3⟩
  have hnb : 0 ≤ n ∧ n ≤ 21 := by
    simp only [List.mem_cons, List.not_mem_nil, or_false] at hn
    omega
  have hg23 : w2.grownBy w3 (some w.heap.size) := grownBy_trans (grown_below hal) hg3
  have hs3 := hg23.size
  clear hn hlit
  have hal3 := oBelow_new w3 (.cells #[.int .i64 6, .int .i64 10, .int .i64 20, .int .i64 2000, .int .i64 0, .int .i64 (-1)] 3)
  have hlit3 := own_lit (w := w3) (B := w3.heap.size) [6, 10, 20, 2000, 0, -1] 3 (Nat.le_refl _) (by simp)
  go_wp2_with fail
  refine (num_any w.heap.size _ 6 [6, 10, 20, 2000, 0, -1] (p2 + 1) _ (hR3.below hal3) (by omega) hlit3.ints (by simp) (by simp) (fun q hq => by cases hq; show w3.heap.size ≠ w.heap.size; omega)).mono ?_
  rintro e w4 ⟨t, ht, rfl, hR4, hg4⟩
  have htb : -1 ≤ t ∧ t ≤ 2000 := by
    simp only [List.mem_cons, List.not_mem_nil, or_false] at ht
    omega
  have hg24 : w2.grownBy w4 (some w.heap.size) := grownBy_trans hg23 (grownBy_trans (grown_below hal3) hg4)
  have b4 : Below w.heap.size w w4 := b2.grown hg24 b2.size (fun k hk => by cases hk; exact Nat.le_refl _)
  have hE4 := Hocc.out w4 hg24.size (fun i h1 h2 => hg24.block i h2 (fun e => by
    have : i = w.heap.size := Option.some.inj e
    omega))
  clear ht hlit3
  go_wp2
  refine bodyPost_ret (v := .tuple #[.slice a2 m.length c2, .int .i64 n, .int .i64 t]) (by simp [results, Try.results11, go_sem]) rfl ?_
  exact ⟨a2, c2, m, n, t, rfl, hm, hE4, hnb.1, hnb.2, htb.1, htb.2, b4⟩
end Go.Proofs.Ytmomoboedoljfaa
