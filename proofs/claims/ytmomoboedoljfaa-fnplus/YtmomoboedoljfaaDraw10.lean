/- The laws' draws of chapter 4: a mode and two lists. -/
import Derived.Test.YtmomoboedoljfaaDraw5
namespace Go.Proofs.Ytmomoboedoljfaa
open Go.ChangeShapes Go.WideShapes Go.ChangeAt Go.RowKit
set_option linter.unusedVariables false
set_option maxRecDepth 4000
set_option maxHeartbeats 1000000 in
theorem l4Draw_any (R p : Nat) (w : World) (h : Rd w R p) (hp : p ≤ 90000) : Calls Try.prog 38 #[.pointer (some ⟨R, 0, none⟩)] w fun e w' => ∃ y : Int, -1 ≤ y ∧ y ≤ 5 ∧ e = .returned (.int .i64 y) ∧ Rd w' R (p + 1) ∧ w.grownBy w' (some R) := by
  have hRl := h.lt
  have hal := oBelow_new w (.cells #[.int .i64 0, .int .i64 1, .int .i64 2, .int .i64 3, .int .i64 4, .int .i64 0, .int .i64 1, .int .i64 2, .int .i64 3, .int .i64 4, .int .i64 0, .int .i64 1, .int .i64 2, .int .i64 3, .int .i64 4, .int .i64 (-1), .int .i64 5] 3)
  have hlit := own_lit (w := w) (B := w.heap.size) [0, 1, 2, 3, 4, 0, 1, 2, 3, 4, 0, 1, 2, 3, 4, -1, 5] 3 (Nat.le_refl _) (by simp)
  go_enter Try.func38, Try.ntmps38
  go_wp2_with fail
  refine (num_any R _ 17 [0, 1, 2, 3, 4, 0, 1, 2, 3, 4, 0, 1, 2, 3, 4, -1, 5] p _ (h.below hal) (by omega) hlit.ints (by simp) (by simp) (fun q hq => by cases hq; show w.heap.size ≠ R; omega)).mono ?_
  rintro e w1 ⟨y, hy, rfl, hR1, hg1⟩
  have hyb : -1 ≤ y ∧ y ≤ 5 := by
    simp only [List.mem_cons, List.not_mem_nil, or_false] at hy
    omega
  clear hy hlit
  go_wp2
  go_ret
  exact ⟨y, hyb.1, hyb.2, rfl, hR1, grownBy_trans (grown_below hal) hg1⟩
/-- Two lists that were drawn, and their room. -/
def TwoRoom (w : World) (a b : Option Addr) (ca cb : Nat) (l l' : List Occ) (w' : World) : Prop :=
  l.length ≤ 7 ∧ l'.length ≤ 7 ∧ l.length ≤ ca ∧ l'.length ≤ cb ∧ Occs w' a l ∧ Occs w' b l' ∧ (∀ o ∈ l, o.Wd) ∧ (∀ o ∈ l', o.Wd) ∧ Below w.heap.size w w'
set_option maxHeartbeats 1000000 in
theorem drawSeqOf_any (a : Option Addr) (cap : Nat) (c : List Int) (w : World) (h : Bytes w a c) (hc : c.length ≤ cap) : Calls Try.prog 14 #[.slice a c.length cap] w
    fun e w' => ∃ (y : Int) (a1 a2 : Option Addr) (c1 c2 : Nat) (l l' : List Occ), -1 ≤ y ∧ y ≤ 5 ∧ e = .returned (.tuple #[.int .i64 y, .slice a1 l.length c1, .slice a2 l'.length c2]) ∧ TwoRoom w a1 a2 c1 c2 l l' w' := by
  go_enter Try.func14, Try.ntmps14
  go_wp2_with fail
  refine (l14Open_any a cap c w h hc).mono ?_
  rintro e w1 ⟨rfl, hR1, hb1, hs1⟩
  have hlt1 : w.heap.size < w1.heap.size := by omega
  clear hs1
  go_wp2_with fail
  refine (l4Draw_any w.heap.size 0 w1 hR1 (by omega)).mono ?_
  rintro e w2 ⟨y, hy0, hy1, rfl, hR2, hg2⟩
  have b2 : Below w.heap.size w w2 := hb1.grown hg2 hb1.size (fun k hk => by cases hk; exact Nat.le_refl _)
  have hs2 := hg2.size
  go_wp2_with fail
  refine (l3Bent_any w.heap.size (0 + 1) w2 hR2 (by omega)).mono ?_
  rintro e w3 ⟨a3, c3, p3, m3, rfl, hm3, hocc3, _, hR3, hp3, hg3, hwd3, L3, hL3, hrow3⟩
  have b3 : Below w.heap.size w w3 := b2.grown hg3 b2.size (fun k hk => by cases hk; exact Nat.le_refl _)
  have hc3 : m3.length ≤ c3 := by
    have := loose_cap hrow3
    rw [hL3, List.length_map]; exact this
  have Hocc3 : Hid (∀ u : World, w3.heap.size ≤ u.heap.size → (∀ i, w2.heap.size ≤ i → i < w3.heap.size → u.heap[i]? = w3.heap[i]?) → Occs u a3 m3) := hocc3
  have Hwd3 : Hid (∀ o ∈ m3, o.Wd) := hwd3
  clear hocc3 hwd3 hL3 hrow3
  go_wp2_with fail
  refine (l3Bent_any w.heap.size p3 w3 hR3 (by omega)).mono ?_
  rintro e w4 ⟨a4, c4, p4, m4, rfl, hm4, hocc4, _, hR4, hp4, hg4, hwd4, L4, hL4, hrow4⟩
  have b4 : Below w.heap.size w w4 := b3.grown hg4 b3.size (fun k hk => by cases hk; exact Nat.le_refl _)
  have hc4 : m4.length ≤ c4 := by
    have := loose_cap hrow4
    rw [hL4, List.length_map]; exact this
  have hfin : Hid (TwoRoom w a3 a4 c3 c4 m3 m4 w4) := ⟨hm3, hm4, hc3, hc4, Hocc3.out w4 hg4.size (fun i h1 h2 => hg4.block i h2 (fun e => by
    have : i = w.heap.size := Option.some.inj e
    omega)), hocc4 w4 (Nat.le_refl _) (fun _ _ _ => rfl), Hwd3.out, hwd4, b4⟩
  clear hocc4 hwd4 hL4 hrow4
  go_wp2
  first | go_ret3 | (refine bodyPost_ret (v := .tuple #[.int .i64 y, .slice a3 m3.length c3, .slice a4 m4.length c4]) (by simp [results, Try.results14, go_sem]) rfl ?_)
  exact ⟨y, a3, a4, c3, c4, m3, m4, hy0, hy1, rfl, hfin.out⟩
set_option maxHeartbeats 1000000 in
theorem drawOrOf_any (a : Option Addr) (cap : Nat) (c : List Int) (w : World) (h : Bytes w a c) (hc : c.length ≤ cap) : Calls Try.prog 5 #[.slice a c.length cap] w
    fun e w' => ∃ (a1 a2 : Option Addr) (c1 c2 : Nat) (l l' : List Occ), e = .returned (.tuple #[.slice a1 l.length c1, .slice a2 l'.length c2]) ∧ TwoRoom w a1 a2 c1 c2 l l' w' := by
  go_enter Try.func5, Try.ntmps5
  go_wp2_with fail
  refine (drawSeqOf_any a cap c w h hc).mono ?_
  rintro e w1 ⟨y, a1, a2, c1, c2, l, l', _, _, rfl, hT⟩
  go_wp2
  go_ret2
  exact ⟨a1, a2, c1, c2, l, l', rfl, hT⟩
end Go.Proofs.Ytmomoboedoljfaa
