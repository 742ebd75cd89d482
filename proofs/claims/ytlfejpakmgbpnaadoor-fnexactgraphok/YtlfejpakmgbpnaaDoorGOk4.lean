/- Graphs: are they ok, by the program. -/
import Derived.Test.YtlfejpakmgbpnaaDoorGOk3
namespace Go.Proofs.YtlfejpakmgbpnaaDoor
open Go.ChangeShapes Go.WideShapes Go.ChangeAt Go.RowKit Go.Deep
set_option linter.unusedVariables false
set_option maxRecDepth 4000

def nodesB (now : Int) : Nat → List Nd → Bool
  | _, [] => true
  | k, x :: r => (partB x k && holdB x now) && nodesB now (k + 1) r
theorem nodesB_step {now : Int} {l : List Nd} {k j : Nat} (h : k < l.length) : nodesB now j (l.drop k) = ((partB l[k] j && holdB l[k] now) && nodesB now (j + 1) (l.drop (k + 1))) := by
  rw [List.drop_eq_getElem_cons h]; rfl
theorem nodesB_end {now : Int} {l : List Nd} {k j : Nat} (h : ¬ k < l.length) : nodesB now j (l.drop k) = true := by
  rw [List.drop_eq_nil_of_le (by omega)]; rfl
def grOkB (m : Int) (l : List Nd) (se nw : Int) : Bool := decide (0 ≤ m ∧ m ≤ 4) && (decide ((1 : Int) ≤ (l.length : Int)) && decide ((l.length : Int) ≤ 12)) && (decide (0 ≤ se) && decide (se ≤ 24)) && (decide (0 ≤ nw) && decide (nw ≤ 1000)) && nodesB nw 0 l

/-- A way to pair, if there is one. -/
def WayPost (ok : Bool) (w : World) (e : Ending) (w' : World) : Prop := ∃ v, e = .returned (.tuple #[v, .bool ok]) ∧ Below w.heap.size w w'
set_option maxHeartbeats 1000000 in
theorem pairWay_any (m : Int) (w : World) : Calls Tryd.prog 13 #[.int .i64 m] w (WayPost (decide (0 ≤ m ∧ m ≤ 4)) w) := by
  rcases (show m = 0 ∨ m = 1 ∨ m = 2 ∨ m = 3 ∨ m = 4 ∨ (m ≠ 0 ∧ m ≠ 1 ∧ m ≠ 2 ∧ m ≠ 3 ∧ m ≠ 4) by omega) with rfl | rfl | rfl | rfl | rfl | ⟨h0, h1, h2, h3, h4⟩
  iterate 5
    · go_enter Tryd.func13, Tryd.ntmps13
      go_wp2
      go_ret2
      exact ⟨_, rfl, Below.refl _ _⟩
  · have hx : decide (0 ≤ m ∧ m ≤ 4) = false := by simp; omega
    rw [hx]
    have b0 : (m == 0) = false := by simpa using h0
    have b1 : (m == 1) = false := by simpa using h1
    have b2 : (m == 2) = false := by simpa using h2
    have b3 : (m == 3) = false := by simpa using h3
    have b4 : (m == 4) = false := by simpa using h4
    clear hx h0 h1 h2 h3 h4
    go_enter Tryd.func13, Tryd.ntmps13
    go_wp2
    go_ret2
    exact ⟨_, rfl, Below.refl _ _⟩

set_option maxHeartbeats 4000000 in
theorem implGraphOk_any (m : Int) (a : Option Addr) (cap : Nat) (l : List Nd) (se nw : Int) (fu : Bool) (w : World) (h : Nds w a l) :
    Calls Tryd.prog 7 #[.agg (gC m a l.length cap se nw fu)] w fun e w' => e = .returned (.bool (grOkB m l se nw)) ∧ Below w.heap.size w w' := by
  obtain ⟨G, hG⟩ : ∃ G, grOkB m l se nw = G := ⟨_, rfl⟩
  rw [hG]
  have HG : Hid (grOkB m l se nw = G) := hG
  clear hG
  have hn := h.len
  unfold maxLen at hn
  obtain ⟨w0, hw0⟩ : ∃ w0, w.alloc (.cells (gC m a l.length cap se nw fu) 29) = w0 := ⟨_, rfl⟩
  have hA0 := bx_new w (gC m a l.length cap se nw fu) 29
  have b0 := oBelow_new w (.cells (gC m a l.length cap se nw fu) 29)
  rw [hw0] at hA0 b0
  obtain ⟨A, hA⟩ : ∃ A, w.heap.size = A := ⟨_, rfl⟩
  rw [hA] at hA0
  have N0 := h.below b0
  obtain ⟨q0, q1, q2, q3, q4⟩ := hA0.five
  unfold gC at hw0 ⊢
  have hway := fun w => pairWay_any m w
  cases g0 : decide (0 ≤ m ∧ m ≤ 4)
  case false =>
    rw [g0] at hway
    have hf : grOkB m l se nw = false := by simp only [grOkB, g0]; rfl
    clear g0
    go_enter Tryd.func7, Tryd.ntmps7
    go_wp2_with fail
    refine (hway _).mono ?_
    rintro e w1 ⟨v, rfl, hb1⟩
    have b1 := b0.trans (hb1.mono b0.size)
    go_wp2
    go_ret
    exact ⟨ret_bool (by rw [← HG.out, hf]), b1⟩
  rw [g0] at hway
  have G0 : Hid (decide (0 ≤ m ∧ m ≤ 4) = true) := g0
  clear g0
  go_enter Tryd.func7, Tryd.ntmps7
  go_wp2_with fail
  refine (hway _).mono ?_
  rintro e w1 ⟨v, rfl, hb1⟩
  have b1 := b0.trans (hb1.mono b0.size)
  have hA1 := hA0.below hb1
  have N1 := N0.below hb1
  clear q0 q1 q2 q3 q4 hway hw0
  obtain ⟨q0, q1, q2, q3, q4⟩ := hA1.five
  go_wp2_with fail
  refine (within_any (l.length : Int) 1 12 _).mono ?_
  rintro e w2 ⟨rfl, hw2⟩
  replace hw2 := hw2.symm
  subst hw2
  cases g1 : (decide ((1 : Int) ≤ (l.length : Int)) && decide ((l.length : Int) ≤ 12))
  case false =>
    have hf : grOkB m l se nw = false := by simp only [grOkB, g1, Bool.and_false, Bool.false_and]
    clear g1
    go_wp2
    go_ret
    exact ⟨ret_bool (by rw [← HG.out, hf]), b1⟩
  have hl12 : l.length ≤ 12 := by simp at g1; omega
  have G1 : Hid ((decide ((1 : Int) ≤ (l.length : Int)) && decide ((l.length : Int) ≤ 12)) = true) := g1
  clear g1
  go_wp2_with fail
  refine (within_any se 0 24 _).mono ?_
  rintro e w2 ⟨rfl, hw2⟩
  replace hw2 := hw2.symm
  subst hw2
  cases g2 : (decide (0 ≤ se) && decide (se ≤ 24))
  case false =>
    have hf : grOkB m l se nw = false := by simp only [grOkB, g2, Bool.and_false, Bool.false_and]
    clear g2
    go_wp2
    go_ret
    exact ⟨ret_bool (by rw [← HG.out, hf]), b1⟩
  have G2 : Hid ((decide (0 ≤ se) && decide (se ≤ 24)) = true) := g2
  clear g2
  go_wp2_with fail
  refine (within_any nw 0 1000 _).mono ?_
  rintro e w2 ⟨rfl, hw2⟩
  replace hw2 := hw2.symm
  subst hw2
  cases g3 : (decide (0 ≤ nw) && decide (nw ≤ 1000))
  case false =>
    have hf : grOkB m l se nw = false := by simp only [grOkB, g3, Bool.and_false, Bool.false_and]
    clear g3
    go_wp2
    go_ret
    exact ⟨ret_bool (by rw [← HG.out, hf]), b1⟩
  have hf : Hid (grOkB m l se nw = nodesB nw 0 (l.drop 0)) := by show _ = _; simp only [grOkB, g3, G0.out, G1.out, G2.out]; rfl
  clear g3
  go_wp2
  clear q0 q1 q2 q3 q4
  go_loopw [5, 6, 37] (fun x z i wr => ∃ k : Nat, k ≤ l.length ∧ i = .int .i64 k ∧ Hid (nodesB nw 0 (l.drop 0) = nodesB nw k (l.drop k)) ∧ Below w1.heap.size w1 wr) (fun _ _ i _ => l.length - (intOf i).toNat)
  case atStart => exact ⟨0, Nat.zero_le _, rfl, rfl, Below.refl _ _⟩
  case round =>
    obtain ⟨k, hk, rfl, hr, hb⟩ := hrel
    have be := b1.trans (hb.mono b1.size)
    by_cases hlt : k < l.length
    · obtain ⟨b, off, p, rfl, hbl, hc, hids⟩ := (N1.below hb).at hlt
      have hst : Hid (nodesB nw k (l.drop k) = _) := nodesB_step hlt
      generalize l[k] = o at hc hids hst
      obtain ⟨c0, c1, c2, c3, c4, c5, c6, c7, c8, c9⟩ := hc
      obtain ⟨u1, hu1⟩ : ∃ u1, wr.alloc (.cells (ndC o p) 43) = u1 := ⟨_, rfl⟩
      have hX := bx_new wr (ndC o p) 43
      have bu1 := oBelow_new wr (.cells (ndC o p) 43)
      rw [hu1] at hX bu1
      obtain ⟨X, hXe⟩ : ∃ X, wr.heap.size = X := ⟨_, rfl⟩
      rw [hXe] at hX
      have hAu := (hA1.below hb).below bu1
      have hidu := hids.below bu1
      have bw := be.trans (bu1.mono be.size)
      obtain ⟨x0, x1, x2, x3, x4, x5, x6, x7, x8, x9⟩ := hX.ten
      simp only [Nat.zero_add] at x0 x1 x2 x3 x4 x5 x6 x7 x8 x9
      unfold ndC at hu1
      cases g4 : partB o k
      case false =>
        have G4 : Hid (partB o k = false) := g4
        clear g4
        go_wp2_with fail
        refine (nodeIsPart_any o p k _ hidu (by omega) (by omega)).mono ?_
        rintro e w3 ⟨rfl, hb3⟩
        rw [G4.out]
        have bz := bw.trans (hb3.mono bw.size)
        go_wp2
        go_ret
        exact ⟨ret_bool (by rw [← HG.out, hf.out, hr.out, hst.out, G4.out]; rfl), bz⟩
      have G4 : Hid (partB o k = true) := g4
      clear g4
      go_wp2_with fail
      refine (nodeIsPart_any o p k _ hidu (by omega) (by omega)).mono ?_
      rintro e w3 ⟨rfl, hb3⟩
      rw [G4.out]
      have bz := bw.trans (hb3.mono bw.size)
      have hA3 := hAu.below hb3
      have hX3 := hX.below hb3
      clear x0 x1 x2 x3 x4 x5 x6 x7 x8 x9 hu1
      obtain ⟨x0, x1, x2, x3, x4, x5, x6, x7, x8, x9⟩ := hX3.ten
      simp only [Nat.zero_add] at x0 x1 x2 x3 x4 x5 x6 x7 x8 x9
      obtain ⟨q0, q1, q2, q3, q4⟩ := hA3.five
      go_wp2_with fail
      refine (nodeHolds_any o p nw _ (hidu.below hb3)).mono ?_
      rintro e w4 ⟨rfl, hb4⟩
      have bz4 := bz.trans (hb4.mono bz.size)
      cases g5 : holdB o nw
      case false =>
        have G5 : Hid (holdB o nw = false) := g5
        clear g5
        go_wp2
        go_ret
        exact ⟨ret_bool (by rw [← HG.out, hf.out, hr.out, hst.out, G4.out, G5.out]; rfl), bz4⟩
      have G5 : Hid (holdB o nw = true) := g5
      clear g5
      have hbn := hb.trans (bu1.mono hb.size)
      have hbn := hbn.trans (hb3.mono hbn.size)
      have hbn := hbn.trans (hb4.mono hbn.size)
      go_wp2
      exact ⟨⟨k + 1, by omega, by go_num, by show _ = _; rw [hr.out, hst.out, G4.out, G5.out]; rfl, hbn⟩, by simp [intOf]; omega⟩
    · go_wp2
      go_ret
      exact ⟨ret_bool (by rw [← HG.out, hf.out, hr.out, nodesB_end hlt]), by first | exact be | (rw [← hA]; exact be)⟩
end Go.Proofs.YtlfejpakmgbpnaaDoor
