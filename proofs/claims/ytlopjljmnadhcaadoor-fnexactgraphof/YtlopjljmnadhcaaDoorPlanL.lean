/- The marks are read of a row of parts; graphs marked. -/
import Derived.Test.YtlopjljmnadhcaaDoorPlanK
namespace Go.Proofs.YtlopjljmnadhcaaDoor
open Go.ChangeShapes Go.WideShapes Go.ChangeAt Go.RowKit
set_option linter.unusedVariables false
set_option maxRecDepth 4000

set_option maxHeartbeats 2000000 in
theorem heldNodeS_ge (B b cap : Nat) (L : List GE) (k : Int) (w : World) (h : Ges w B b (markL k L L.length)) (hk0 : 0 ≤ k) (hk1 : k + widL L ≤ 100000000) (hks : ∀ x ∈ L, x.ks.length ≤ 1048576) (hlen : L.length ≤ 1048576 * 2) :
    Calls Tryd.prog 28 #[.slice (some ⟨b, 0, none⟩) L.length cap, .int .i64 k] w fun e w' => e = .returned (.int .i64 (k + widL L)) ∧ w' = w := by
  go_enter Tryd.func28, Tryd.ntmps28
  go_wp2_with fail
  go_loopw [1, 5] (fun c i wr => ∃ j : Nat, j ≤ L.length ∧ i = .int .i64 j ∧ c = .int .i64 (offL k L j) ∧ wr = w) (fun _ i _ => L.length - (intOf i).toNat)
  case atStart => exact ⟨0, Nat.zero_le _, rfl, by rw [offL_zero], rfl⟩
  case round =>
    obtain ⟨j, hj, rfl, rfl, hwr⟩ := hrel
    subst hwr
    by_cases hlt : j < L.length
    · obtain ⟨x, hx⟩ : ∃ x, L[j]? = some x := ⟨_, List.getElem?_eq_getElem hlt⟩
      have hxm := markL_lt L L.length k j x hlt hx
      have hnx : Hid (offL k L (j + 1) = _) := offL_next L j k x hx
      have ho := offL_le L j k
      have hxk := hks x (List.mem_of_getElem? hx)
      generalize offL k L j = m at hnx ho hxm
      have hxo := widL_get L j x hx
      have hnb := offL_le L (j + 1) k
      rw [hnx.out] at hnb
      have hc := h.cells j _ hxm
      have c0 := hc 0 _ rfl
      have c1 := hc 1 _ rfl
      have c2 := hc 2 _ rfl
      have c3 : wr.cell? ⟨b, j * 10 + 3, none⟩ = some (.slice x.a x.ks.length x.c) := by
        have := hc 3 _ rfl
        simpa [GE.mark, iMarks_length] using this
      have c4 := hc 4 _ rfl
      have c5 := hc 5 _ rfl
      have c6 := hc 6 _ rfl
      have c7 := hc 7 _ rfl
      have c8 := hc 8 _ rfl
      have c9 := hc 9 _ rfl
      clear hc
      simp only [Nat.add_zero] at c0
      simp only [GE.mark] at c0 c1 c2 c9
      have hI : Ints wr x.a (iMarks (m + 1 + 1 + 1) x.ks.length) := (h.one j _ hxm).ints
      have n0 : (m != m) = false := by simp
      have n1 : (m + 1 != m + 1) = false := by simp
      have n2 : (m + 1 + 1 != m + 1 + 1) = false := by simp
      have n3 : (m + 1 + 1 + 1 + (x.ks.length : Int) != m + 1 + 1 + 1 + (x.ks.length : Int)) = false := by simp
      go_wp2_with fail
      refine (heldIntS_any x.a x.c x.ks.length (m + 1 + 1 + 1) wr hI hxk (by omega) (by omega)).mono ?_
      rintro e w3 ⟨rfl, rfl⟩
      obtain ⟨K, hK⟩ : ∃ K : Int, m + 1 + 1 + 1 + (x.ks.length : Int) = K := ⟨_, rfl⟩
      rw [hK] at n3 c9
      rw [hK]
      have hkn : decide (K < 0) = false := by simp; omega
      go_wp2_with fail
      refine (heldOccS_nil _ _).mono ?_
      rintro e w4 ⟨rfl, rfl⟩
      go_wp2_with fail
      refine (heldOccS_nil _ _).mono ?_
      rintro e w5 ⟨rfl, rfl⟩
      go_wp2_with fail
      refine (heldOccS_nil _ _).mono ?_
      rintro e w6 ⟨rfl, rfl⟩
      go_wp2_with fail
      refine (heldOccS_nil _ _).mono ?_
      rintro e w7 ⟨rfl, rfl⟩
      go_wp2_with fail
      refine (heldOccS_nil _ _).mono ?_
      rintro e w8 ⟨rfl, rfl⟩
      go_wp2_with fail
      refine ⟨⟨j + 1, by omega, by go_num, ?_, by first | rfl | trivial⟩, by simp [intOf]; omega⟩
      rw [hnx.out, ← hK]; go_num
    · go_wp2_with fail
      go_ret
      obtain rfl : j = L.length := by omega
      rw [offL_full L _ k (Nat.le_refl _)]
      exact ⟨rfl, rfl⟩

set_option maxHeartbeats 400000 in
theorem markNodeS_nil (a : Option Addr) (cap : Nat) (k : Int) (w : World) : Calls Tryd.prog 27 #[.slice a 0 cap, .int .i64 k] w fun e w' => e = .returned (.int .i64 k) ∧ w' = w := by
  go_enter Tryd.func27, Tryd.ntmps27
  go_wp2
  go_loopw [1, 5] (fun c i wr => i = .int .i64 0 ∧ c = .int .i64 k ∧ wr = w) (fun _ _ _ => 0)
  case atStart => exact ⟨rfl, rfl, rfl⟩
  case round =>
    obtain ⟨rfl, rfl, hwr⟩ := hrel
    subst hwr
    go_wp2
    go_ret
    exact ⟨rfl, rfl⟩
set_option maxHeartbeats 400000 in
theorem heldNodeS_nil (a : Option Addr) (cap : Nat) (k : Int) (w : World) : Calls Tryd.prog 28 #[.slice a 0 cap, .int .i64 k] w fun e w' => e = .returned (.int .i64 k) ∧ w' = w := by
  go_enter Tryd.func28, Tryd.ntmps28
  go_wp2
  go_loopw [1, 5] (fun c i wr => i = .int .i64 0 ∧ c = .int .i64 k ∧ wr = w) (fun _ _ _ => 0)
  case atStart => exact ⟨rfl, rfl, rfl⟩
  case round =>
    obtain ⟨rfl, rfl, hwr⟩ := hrel
    subst hwr
    go_wp2
    go_ret
    exact ⟨rfl, rfl⟩

/-- The row of parts at a, if there are any. -/
def GesAt (w : World) (B : Nat) (a : Option Addr) (L : List GE) : Prop := 0 < L.length → ∃ b, a = some ⟨b, 0, none⟩ ∧ Ges w B b L
theorem GcOwn.gesAt {w : World} {B : Nat} {a : Option Addr} {cap : Nat} {L : List GC} (h : GcOwn w B (.slice a L.length cap) L) : GesAt w B a (L.map GC.e) := by
  intro hl
  have hl' : 0 < L.length := by simpa using hl
  obtain ⟨b, e, _⟩ := h.gcs.cells hl'
  subst e
  exact ⟨b, rfl, h.ges hl'⟩
theorem Ges.keep {w w' : World} {B b : Nat} {L : List GE} (h : Ges w B b L) (hb : Below w.heap.size w w') : Ges w' B b L := by
  obtain ⟨c, t, hg, hcs⟩ := h.blk
  have hlt := (Array.getElem?_eq_some_iff.1 hg).1
  refine ⟨⟨c, t, (hb.block b hlt).trans hg, hcs⟩, h.ge, fun i x hx j v hv => by rw [hb.cell (by exact hlt)]; exact h.cells i x hx j v hv, fun i x hx => gInt_turn (h.one i x hx) hb.size (fun p hp => hb.block _ (h.off i x hx p hp).2), fun i x hx p hp => ⟨(h.off i x hx p hp).1, Nat.lt_of_lt_of_le (h.off i x hx p hp).2 hb.size⟩, h.apart⟩
theorem GesAt.keep {w w' : World} {B : Nat} {a : Option Addr} {L : List GE} (h : GesAt w B a L) (hb : Below w.heap.size w w') : GesAt w' B a L := fun hl => by
  obtain ⟨b, e, g⟩ := h hl
  exact ⟨b, e, g.keep hb⟩

set_option maxHeartbeats 1000000 in
theorem markGraph_ge (m : Int) (B N : Nat) (a : Option Addr) (n cap : Nat) (L : List GE) (k : Int) (w : World) (h : GesAt w B a L) (hn : n = L.length) (hbN : 0 < L.length → ∀ b, a = some ⟨b, 0, none⟩ → b < N) (hNL : ∀ (i : Nat) (x : GE), L[i]? = some x → ∀ (p : Addr), x.a = some p → p.block < N) (hk0 : 0 ≤ k) (hk1 : k + widL L ≤ 100000000) (hw : widL L ≤ 1048576 * 8) (hks : ∀ x ∈ L, x.ks.length ≤ 1048576) (hlen : L.length ≤ 1048576 * 2) :
    Calls Tryd.prog 12 #[.agg (grC m a n cap), .int .i64 k] w fun e w' => e = .returned (.int .i64 (k + widL L)) ∧ GesAt w' B a (markL k L L.length) ∧ Turn (fun x => B ≤ x ∧ x < N) w w' := by
  subst hn
  unfold grC
  obtain ⟨w0, hw0⟩ : ∃ w0, w.alloc (.cells #[.int .i64 m, .slice a L.length cap, .int .i64 0, .int .i64 0, .bool false] 28) = w0 := ⟨_, rfl⟩
  have hA0 := gb_new w #[.int .i64 m, .slice a L.length cap, .int .i64 0, .int .i64 0, .bool false] 28
  have b0 := gBelow_new w (.cells #[.int .i64 m, .slice a L.length cap, .int .i64 0, .int .i64 0, .bool false] 28)
  rw [hw0] at hA0 b0
  have q1 := hA0.at 1
  have h0 := h.keep b0
  go_enter Tryd.func12, Tryd.ntmps12
  go_wp2_with fail
  by_cases hl : L.length = 0
  · obtain rfl : L = [] := List.length_eq_zero_iff.1 hl
    refine (markNodeS_nil a cap k _).mono ?_
    rintro e w2 ⟨rfl, rfl⟩
    go_wp2
    go_ret
    exact ⟨by simp [widL], fun hl => by simp [markL] at hl, Turn.of_below b0⟩
  · obtain ⟨b, rfl, hg⟩ := h0 (by omega)
    refine (markNodeS_ge B N b cap L k _ hg (hbN (by omega) b rfl) hNL hk0 hk1 hw hks hlen).mono ?_
    rintro e w2 ⟨rfl, hg2, hb2⟩
    go_wp2
    go_ret
    exact ⟨rfl, fun _ => ⟨b, rfl, hg2⟩, (Turn.of_below b0).trans hb2⟩
set_option maxHeartbeats 1000000 in
theorem heldGraph_ge (m : Int) (B : Nat) (a : Option Addr) (n cap : Nat) (L : List GE) (k : Int) (w : World) (h : GesAt w B a (markL k L L.length)) (hn : n = L.length) (hk0 : 0 ≤ k) (hk1 : k + widL L ≤ 100000000) (hks : ∀ x ∈ L, x.ks.length ≤ 1048576) (hlen : L.length ≤ 1048576 * 2) :
    Calls Tryd.prog 13 #[.agg (grC m a n cap), .int .i64 k] w fun e w' => e = .returned (.int .i64 (k + widL L)) ∧ Below w.heap.size w w' := by
  subst hn
  unfold grC
  obtain ⟨w0, hw0⟩ : ∃ w0, w.alloc (.cells #[.int .i64 m, .slice a L.length cap, .int .i64 0, .int .i64 0, .bool false] 28) = w0 := ⟨_, rfl⟩
  have hA0 := gb_new w #[.int .i64 m, .slice a L.length cap, .int .i64 0, .int .i64 0, .bool false] 28
  have b0 := gBelow_new w (.cells #[.int .i64 m, .slice a L.length cap, .int .i64 0, .int .i64 0, .bool false] 28)
  rw [hw0] at hA0 b0
  have q1 := hA0.at 1
  have h0 := h.keep b0
  go_enter Tryd.func13, Tryd.ntmps13
  go_wp2_with fail
  by_cases hl : L.length = 0
  · obtain rfl : L = [] := List.length_eq_zero_iff.1 hl
    refine (heldNodeS_nil a cap k _).mono ?_
    rintro e w2 ⟨rfl, rfl⟩
    have hkn : decide (k < 0) = false := by simp; omega
    go_wp2
    go_ret
    exact ⟨by simp [widL], b0⟩
  · obtain ⟨b, rfl, hg⟩ := h0 (by rw [markL_length]; omega)
    refine (heldNodeS_ge B b cap L k _ hg hk0 hk1 hks hlen).mono ?_
    rintro e w2 ⟨rfl, rfl⟩
    obtain ⟨K, hK⟩ : ∃ K : Int, k + (widL L : Int) = K := ⟨_, rfl⟩
    rw [hK]
    have hkn : decide (K < 0) = false := by simp; omega
    go_wp2
    go_ret
    exact ⟨by rw [hK]; rfl, b0⟩
end Go.Proofs.YtlopjljmnadhcaaDoor
