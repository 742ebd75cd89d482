/- The laws' draws: lists of places. -/
import Derived.Test.YtmomoboedoljfaaDraw2
namespace Go.Proofs.Ytmomoboedoljfaa
open Go.ChangeShapes Go.WideShapes Go.ChangeAt Go.RowKit
set_option linter.unusedVariables false
set_option maxRecDepth 4000

theorem OccsOwn.only {w w' : World} {B R : Nat} {v : Value} {L : List OC} (h : OccsOwn w B v L) (hg : w.grownBy w' (some R)) (hR : R < B) : OccsOwn w' B v L :=
  ⟨h.row.kept hg (.inr (fun e => by have := (h.row.lt R e).1; omega)), fun x hx => (h.one x hx).only hg (fun q hq e => by have h1 := (h.one x hx).ge q hq; rw [← (show R = q.block by simpa using e)] at h1; omega),
    fun x hx q hq => Nat.lt_of_lt_of_le (h.lt x hx q hq) hg.size, h.off, h.apart⟩

/-- What the draw of a list hands back. -/
def SomePost (w : World) (R p most : Nat) (e : Ending) (w' : World) : Prop :=
  ∃ (v : Value) (L : List OC) (p' : Nat), e = .returned v ∧ OccsOwn w' w.heap.size v L ∧ (∀ x ∈ L, x.o.Ok) ∧ L.length ≤ most ∧ Rd w' R p' ∧ p' ≤ p + 1 + 20 * most ∧ w.grownBy w' (some R)

set_option maxHeartbeats 1000000 in
theorem l3Some_any (R p most : Nat) (w : World) (h : Rd w R p) (hp : p ≤ 80000) (hm : most ≤ 100) : Calls Try.prog 49 #[.pointer (some ⟨R, 0, none⟩), .int .i64 most] w (SomePost w R p most) := by
  have hRl := h.lt
  have hal := oBelow_new w (.cells #[] 32)
  have hO0 := OccsOwn.made w
  have hs0 : (w.alloc (.cells #[] 32)).heap.size = w.heap.size + 1 := by simp
  obtain ⟨w0, hw0⟩ : ∃ w0, w.alloc (.cells #[] 32) = w0 := ⟨_, rfl⟩
  rw [hw0] at hal hO0 hs0
  have hR0 := h.below hal
  have hg0 : w.grownBy w0 (some R) := grown_below hal
  go_enter Try.func49, Try.ntmps49
  go_wp2_with fail
  refine (pick_any R ((most : Int) + 1) p _ hR0 (by omega) (by omega) (by omega)).mono ?_
  rintro e w1 ⟨v1, rfl, _, hv1, hR1, hg1⟩
  have hv1' : (v1 : Int) < (most : Int) + 1 := hv1 (by omega)
  have hO1 := hO0.only hg1 hRl
  have hg01 := grownBy_trans hg0 hg1
  clear hv1 hw0
  go_wp2
  go_loopw [5, 6] (fun v vi wr => ∃ (j p1 : Nat) (L : List OC), vi = .int .i64 j ∧ L.length + j ≤ most ∧ OccsOwn wr w.heap.size v L ∧ (∀ x ∈ L, x.o.Ok) ∧ Rd wr R p1 ∧ p1 + 20 * j ≤ p + 1 + 20 * most ∧ w.grownBy wr (some R)) (fun _ vi _ => (intOf vi).toNat)
  case atStart => exact ⟨v1, p + 1, [], rfl, by simp; omega, hO1, by simp, hR1, by omega, hg01⟩
  case round =>
    obtain ⟨j, p1, L, rfl, hjl, hO, hok, hR, hp1, hg⟩ := hrel
    by_cases hj : 0 < j
    · go_wp2_with fail
      refine (l3Any_any R p1 _ hR (by omega)).mono ?_
      rintro e w2 ⟨o, a2, c2, p2, rfl, hok2, hi2, hl2, hR2, hp2, hg2⟩
      have hO2 := hO.only hg2 hRl
      have hs2 : w.heap.size ≤ w2.heap.size := Nat.le_trans hg.size hg2.size
      go_wp2_with fail
      refine (l3Put_own w.heap.size _ L o a2 c2 _ hO2 hs2 hi2.ints hok2 hok (by omega)).mono ?_
      rintro e w3 ⟨v3, L3, rfl, hL3, hO3, hb3⟩
      have hlen3 : L3.length ≤ L.length + 1 := by
        have h1 := congrArg List.length hL3
        have h2 := putF_len o (L.map (·.o))
        simp at h1 h2
        omega
      have hoks3 : ∀ x ∈ L3, x.o.Ok := oks_of_map hL3 (fun x hx => by
        rcases (mem_putF _ _ _).1 hx with h1 | rfl
        · obtain ⟨y, hy, rfl⟩ := List.mem_map.1 h1
          exact hok y hy
        · exact hok2)
      have hR3 := hR2.lower hRl hb3
      have hg3 : w.grownBy w3 (some R) := by
        have h1 := grownBy_trans hg hg2
        exact ⟨hb3.os.trans h1.os, hb3.tape.trans h1.tape, hb3.output.trans h1.output, Nat.le_trans h1.size hb3.size, fun k hk hne => (hb3.block k hk).trans (h1.block k hk hne)⟩
      go_wp2
      exact ⟨⟨j - 1, p2, L3, by go_num, by omega, hO3, hoks3, hR3, by omega, hg3⟩, by simp [intOf]; omega⟩
    · go_wp2
      go_ret
      refine ⟨_, L, p1, rfl, hO, hok, by omega, hR, by omega, hg⟩
end Go.Proofs.Ytmomoboedoljfaa
