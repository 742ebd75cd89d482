/- How much there is of a graph: the laws' own count. -/
import Derived.Test.YthlddehmebgfoaaNd
import Derived.Test.YthlddehmebgfoaaPair
import Derived.Test.YthlddehmebgfoaaSpan
namespace Go.Proofs.Ythlddehmebgfoaa
open Go.ChangeShapes Go.WideShapes Go.ChangeAt Go.RowKit Go.Deep
set_option linter.unusedVariables false
set_option maxRecDepth 4000

def ndSize (x : Nd) : Nat := x.ks.length + pairSize x.pl x.pr + spanSize x.sl x.sm + occsSize x.du
def ndsTotal : List Nd → Nat
  | [] => 0
  | x :: r => ndSize x + ndsTotal r
theorem ndsTotal_step {l : List Nd} {k : Nat} (h : k < l.length) : ndsTotal (l.drop k) = ndSize l[k] + ndsTotal (l.drop (k + 1)) := by rw [List.drop_eq_getElem_cons h]; rfl
theorem ndsTotal_end {l : List Nd} {k : Nat} (h : ¬ k < l.length) : ndsTotal (l.drop k) = 0 := by rw [List.drop_eq_nil_of_le (by omega)]; rfl
theorem ndsTotal_get : ∀ {l : List Nd} {k : Nat} (h : k < l.length), ndSize l[k] ≤ ndsTotal l
  | x :: r, 0, _ => by simp [ndsTotal]
  | x :: r, k + 1, h => by have := ndsTotal_get (l := r) (k := k) (by simpa using h); simp [ndsTotal]; omega
def ndsSize (l : List Nd) : Nat := l.length + ndsTotal l

set_option maxHeartbeats 1000000 in
theorem szNode_any (x : Nd) (p : NA) (left : Int) (w : World) (h : NdIn w p x) (h0 : 0 ≤ left) (h1 : left ≤ 1048576) :
    Calls Try.prog 77 #[ndV x p, .int .i64 left] w fun e w' => e = .returned (.int .i64 (szDown left (ndSize x))) ∧ Below w.heap.size w w' := by
  obtain ⟨G, hG⟩ : ∃ G, szDown left (ndSize x) = G := ⟨_, rfl⟩
  rw [hG]
  have hse : Hid (ndSize x = x.ks.length + pairSize x.pl x.pr + spanSize x.sl x.sm + occsSize x.du) := rfl
  have HG : Hid (szDown left (ndSize x) = G) := hG
  clear hG
  obtain ⟨w0, hw0⟩ : ∃ w0, w.alloc (.cells (ndC x p) 127) = w0 := ⟨_, rfl⟩
  have hA0 := bx_new w (ndC x p) 127
  have b0 := oBelow_new w (.cells (ndC x p) 127)
  rw [hw0] at hA0 b0
  obtain ⟨q0, q1, q2, q3, q4, q5, q6, q7, q8, q9⟩ := hA0.ten
  have hi0 := h.below b0
  unfold ndV
  unfold ndC at hw0 ⊢
  go_enter Try.func77, Try.ntmps77
  go_wp2_with fail
  refine (szIntS_any _ _ _ _ _ h.ks.len h0 h1).mono ?_
  rintro e w1 ⟨rfl, rfl⟩
  by_cases l1 : left - x.ks.length < 0
  · have hz : szDown left x.ks.length = -1 := if_pos l1
    rw [hz]
    go_wp2
    go_ret
    exact ⟨by rw [← HG.out, show szDown left (ndSize x) = -1 from if_pos (by have := hse.out; omega)]; rfl, b0⟩
  · have hz : szDown left x.ks.length = left - x.ks.length := if_neg l1
    rw [hz]
    have g1 : ¬ (left - (x.ks.length : Int) < 0) := l1
    go_wp2_with fail
    refine (szPair_any _ _ _ _ x.pl x.pr _ _ hi0.pl hi0.pr (by omega) (by omega)).mono ?_
    rintro e w2 ⟨rfl, hb2⟩
    have hA2 := hA0.below hb2
    have hi2 := hi0.below hb2
    have b2 := b0.trans (hb2.mono b0.size)
    clear q0 q1 q2 q3 q4 q5 q6 q7 q8 q9
    obtain ⟨q0, q1, q2, q3, q4, q5, q6, q7, q8, q9⟩ := hA2.ten
    by_cases l2 : left - x.ks.length - pairSize x.pl x.pr < 0
    · have hz : szDown (left - x.ks.length) (pairSize x.pl x.pr) = -1 := if_pos l2
      rw [hz]
      go_wp2
      go_ret
      exact ⟨by rw [← HG.out, show szDown left (ndSize x) = -1 from if_pos (by have := hse.out; omega)]; rfl, b2⟩
    · have hz : szDown (left - x.ks.length) (pairSize x.pl x.pr) = left - x.ks.length - pairSize x.pl x.pr := if_neg l2
      rw [hz]
      have g2 : ¬ (left - (x.ks.length : Int) - (pairSize x.pl x.pr : Int) < 0) := l2
      go_wp2_with fail
      refine (szSpan_any _ _ _ _ x.sl x.sm _ _ hi2.sl hi2.sm (by omega) (by omega)).mono ?_
      rintro e w3 ⟨rfl, hb3⟩
      have hA3 := hA2.below hb3
      have hi3 := hi2.below hb3
      have b3 := b2.trans (hb3.mono b2.size)
      clear q0 q1 q2 q3 q4 q5 q6 q7 q8 q9
      obtain ⟨q0, q1, q2, q3, q4, q5, q6, q7, q8, q9⟩ := hA3.ten
      by_cases l3 : left - x.ks.length - pairSize x.pl x.pr - spanSize x.sl x.sm < 0
      · have hz : szDown (left - x.ks.length - pairSize x.pl x.pr) (spanSize x.sl x.sm) = -1 := if_pos l3
        rw [hz]
        go_wp2
        go_ret
        exact ⟨by rw [← HG.out, show szDown left (ndSize x) = -1 from if_pos (by have := hse.out; omega)]; rfl, b3⟩
      · have hz : szDown (left - x.ks.length - pairSize x.pl x.pr) (spanSize x.sl x.sm) = left - x.ks.length - pairSize x.pl x.pr - spanSize x.sl x.sm := if_neg l3
        rw [hz]
        have g3 : ¬ (left - (x.ks.length : Int) - (pairSize x.pl x.pr : Int) - (spanSize x.sl x.sm : Int) < 0) := l3
        go_wp2_with fail
        refine (szOccS_any _ _ x.du _ _ hi3.du (by omega) (by omega)).mono ?_
        rintro e w4 ⟨rfl, hb4⟩
        have b4 := b3.trans (hb4.mono b3.size)
        by_cases l4 : left - x.ks.length - pairSize x.pl x.pr - spanSize x.sl x.sm - occsSize x.du < 0
        · have hz : szDown (left - x.ks.length - pairSize x.pl x.pr - spanSize x.sl x.sm) (occsSize x.du) = -1 := if_pos l4
          rw [hz]
          go_wp2
          go_ret
          exact ⟨by rw [← HG.out, show szDown left (ndSize x) = -1 from if_pos (by have := hse.out; omega)]; rfl, b4⟩
        · have hz : szDown (left - x.ks.length - pairSize x.pl x.pr - spanSize x.sl x.sm) (occsSize x.du) = left - x.ks.length - pairSize x.pl x.pr - spanSize x.sl x.sm - occsSize x.du := if_neg l4
          rw [hz]
          have g4 : ¬ (left - (x.ks.length : Int) - (pairSize x.pl x.pr : Int) - (spanSize x.sl x.sm : Int) - (occsSize x.du : Int) < 0) := l4
          go_wp2
          go_ret
          exact ⟨by rw [← HG.out, show szDown left (ndSize x) = left - x.ks.length - pairSize x.pl x.pr - spanSize x.sl x.sm - occsSize x.du from by unfold szDown; have := hse.out; rw [if_neg (by omega)]; omega]; rfl, b4⟩

set_option maxHeartbeats 1000000 in
theorem szNodeS_any (a : Option Addr) (cap : Nat) (l : List Nd) (left : Int) (w : World) (h : Nds w a l) (h0 : 0 ≤ left) (h1 : left ≤ 1048576) :
    Calls Try.prog 56 #[.slice a l.length cap, .int .i64 left] w fun e w' => e = .returned (.int .i64 (szDown left (ndsSize l))) ∧ Below w.heap.size w w' := by
  have hn := h.len
  unfold maxLen at hn
  have hse : ndsSize l = l.length + ndsTotal l := rfl
  by_cases hl : left - l.length < 0
  · have hz : szDown left (ndsSize l) = -1 := if_pos (by omega)
    rw [hz]
    clear hse
    go_enter Try.func56, Try.ntmps56
    go_wp2
    go_ret
    exact ⟨rfl, Below.refl _ _⟩
  · obtain ⟨G, hG⟩ : ∃ G, szDown left (ndsSize l) = G := ⟨_, rfl⟩
    rw [hG]
    have hse' : Hid (ndsSize l = l.length + ndsTotal l) := hse
    have HG : Hid (szDown left (ndsSize l) = G) := hG
    clear hse hG
    go_enter Try.func56, Try.ntmps56
    go_wp2
    go_loopw [1, 5] (fun c i wr => ∃ k : Nat, ∃ cur : Int, k ≤ l.length ∧ i = .int .i64 k ∧ c = .int .i64 cur ∧ 0 ≤ cur ∧ cur ≤ 1048576 ∧ Hid (cur - (ndsTotal (l.drop k) : Int) = left - ndsSize l) ∧ Below w.heap.size w wr) (fun _ i _ => l.length - (intOf i).toNat)
    case atStart => exact ⟨0, _, Nat.zero_le _, rfl, rfl, by omega, by omega, by show _ = _; have := hse'.out; rw [List.drop_zero]; omega, Below.refl _ _⟩
    case round =>
      obtain ⟨k, cur, hk, rfl, rfl, hc0, hc1, hr, hb⟩ := hrel
      by_cases hlt : k < l.length
      · obtain ⟨b, off, p, rfl, hbl, ht, hids⟩ := (h.below hb).at hlt
        have hin : Hid (ndsTotal (l.drop k) = _) := ndsTotal_step hlt
        generalize l[k] = o at ht hids hin
        obtain ⟨q0, q1, q2, q3, q4, q5, q6, q7, q8, q9⟩ := ht
        by_cases hneg : cur - ndSize o < 0
        · have hz : szDown cur (ndSize o) = -1 := if_pos hneg
          have hz' : Hid (szDown left (ndsSize l) = -1) := by
            show _ = _
            have := hr.out; have := hin.out
            exact if_pos (by omega)
          go_wp2_with fail
          refine (szNode_any o p cur _ hids hc0 hc1).mono ?_
          rintro e w1 ⟨rfl, hb1⟩
          rw [hz]
          go_wp2
          go_ret
          exact ⟨by rw [← HG.out, hz'.out]; rfl, hb.trans (hb1.mono hb.size)⟩
        · have hz : szDown cur (ndSize o) = cur - ndSize o := if_neg hneg
          have hge : ¬ (cur - (ndSize o : Int) < 0) := hneg
          go_wp2_with fail
          refine (szNode_any o p cur _ hids hc0 hc1).mono ?_
          rintro e w1 ⟨rfl, hb1⟩
          rw [hz]
          go_wp2
          refine ⟨⟨k + 1, _, by omega, by go_num, rfl, by omega, by omega, ?_, hb.trans (hb1.mono hb.size)⟩, by simp [intOf]; omega⟩
          show _ = _
          have := hr.out; have := hin.out
          omega
      · have hz' : Hid (szDown left (ndsSize l) = cur) := by
          show _ = _
          have := hr.out
          rw [ndsTotal_end hlt] at this
          unfold szDown
          rw [if_neg (by omega)]; omega
        go_wp2
        go_ret
        exact ⟨by rw [← HG.out, hz'.out]; rfl, hb⟩

/-- A graph's cells. -/
def gC (m : Int) (a : Option Addr) (n cap : Nat) (se nw : Int) (fu : Bool) : Array Value := #[.int .i64 m, .slice a n cap, .int .i64 se, .int .i64 nw, .bool fu]
theorem Bx.five {w : World} {A : Nat} {m : Int} {a : Option Addr} {n cap : Nat} {se nw : Int} {fu : Bool} (h : Bx w A (gC m a n cap se nw fu)) :
    w.cell? ⟨A, 0, none⟩ = some (.int .i64 m) ∧ w.cell? ⟨A, 1, none⟩ = some (.slice a n cap) ∧ w.cell? ⟨A, 2, none⟩ = some (.int .i64 se) ∧ w.cell? ⟨A, 3, none⟩ = some (.int .i64 nw) ∧ w.cell? ⟨A, 4, none⟩ = some (.bool fu) :=
  ⟨h.cell 0 rfl, h.cell 1 rfl, h.cell 2 rfl, h.cell 3 rfl, h.cell 4 rfl⟩

set_option maxHeartbeats 1000000 in
theorem szGraph_any (m : Int) (a : Option Addr) (cap : Nat) (l : List Nd) (se nw : Int) (fu : Bool) (left : Int) (w : World) (h : Nds w a l) (h0 : 0 ≤ left) (h1 : left ≤ 1048576) :
    Calls Try.prog 36 #[.agg (gC m a l.length cap se nw fu), .int .i64 left] w fun e w' => e = .returned (.int .i64 (szDown left (ndsSize l))) ∧ Below w.heap.size w w' := by
  obtain ⟨w0, hw0⟩ : ∃ w0, w.alloc (.cells (gC m a l.length cap se nw fu) 74) = w0 := ⟨_, rfl⟩
  have hA0 := bx_new w (gC m a l.length cap se nw fu) 74
  have b0 := oBelow_new w (.cells (gC m a l.length cap se nw fu) 74)
  rw [hw0] at hA0 b0
  obtain ⟨q0, q1, q2, q3, q4⟩ := hA0.five
  unfold gC at hw0 ⊢
  by_cases hn : left - ndsSize l < 0
  · have hz : szDown left (ndsSize l) = -1 := if_pos hn
    rw [hz]
    go_enter Try.func36, Try.ntmps36
    go_wp2_with fail
    refine (szNodeS_any _ _ l _ _ (h.below b0) h0 h1).mono ?_
    rintro e w1 ⟨rfl, hb1⟩
    rw [hz]
    go_wp2
    go_ret
    exact ⟨rfl, b0.trans (hb1.mono b0.size)⟩
  · have hz : szDown left (ndsSize l) = left - ndsSize l := if_neg hn
    have hge : ¬ (left - (ndsSize l : Int) < 0) := hn
    rw [hz]
    go_enter Try.func36, Try.ntmps36
    go_wp2_with fail
    refine (szNodeS_any _ _ l _ _ (h.below b0) h0 h1).mono ?_
    rintro e w1 ⟨rfl, hb1⟩
    rw [hz]
    go_wp2
    go_ret
    exact ⟨rfl, b0.trans (hb1.mono b0.size)⟩
end Go.Proofs.Ythlddehmebgfoaa
