/- Graphs: are they ok, by the specification. -/
import Derived.Test.YtlfejpakmgbpnaaDoorGOk4
namespace Go.Proofs.YtlfejpakmgbpnaaDoor
open Go.ChangeShapes Go.WideShapes Go.ChangeAt Go.RowKit Go.Deep
set_option linter.unusedVariables false
set_option maxRecDepth 4000

set_option maxHeartbeats 400000 in
theorem mode_any (m : Int) (w : World) : Calls Tryd.prog 10 #[.int .i64 m] w fun e w' => e = .returned (.bool (decide (0 ≤ m ∧ m ≤ 4))) ∧ Below w.heap.size w w' := by
  by_cases h0 : 0 ≤ m
  · by_cases h5 : m < 5
    · have hx : decide (0 ≤ m ∧ m ≤ 4) = true := by simp; omega
      rw [hx]
      go_enter Tryd.func10, Tryd.ntmps10
      go_wp2
      go_ret
      exact ⟨rfl, Below.refl _ _⟩
    · have hx : decide (0 ≤ m ∧ m ≤ 4) = false := by simp; omega
      rw [hx]
      go_enter Tryd.func10, Tryd.ntmps10
      go_wp2
      go_ret
      exact ⟨rfl, Below.refl _ _⟩
  · have hx : decide (0 ≤ m ∧ m ≤ 4) = false := by simp; omega
    rw [hx]
    go_enter Tryd.func10, Tryd.ntmps10
    go_wp2
    go_ret
    exact ⟨rfl, Below.refl _ _⟩

theorem boundsB (m : Int) (l : List Nd) (se nw : Int) (h : ¬ (0 ≤ m ∧ m ≤ 4 ∧ 1 ≤ l.length ∧ l.length ≤ 12 ∧ 0 ≤ se ∧ se ≤ 24 ∧ 0 ≤ nw ∧ nw ≤ 1000)) : grOkB m l se nw = false := by
  cases hq : grOkB m l se nw
  · rfl
  · exfalso
    simp only [grOkB, Bool.and_eq_true, decide_eq_true_eq] at hq
    exact h (by omega)

set_option maxHeartbeats 8000000 in
theorem specGraphOk_any (m : Int) (a : Option Addr) (cap : Nat) (l : List Nd) (se nw : Int) (fu : Bool) (w : World) (h : Nds w a l) :
    Calls Tryd.prog 5 #[.agg (gC m a l.length cap se nw fu)] w fun e w' => e = .returned (.bool (grOkB m l se nw)) ∧ Below w.heap.size w w' := by
  obtain ⟨G, hG⟩ : ∃ G, grOkB m l se nw = G := ⟨_, rfl⟩
  rw [hG]
  have HG : Hid (grOkB m l se nw = G) := hG
  clear hG
  have hn := h.len
  unfold maxLen at hn
  obtain ⟨w0, hw0⟩ : ∃ w0, w.alloc (.cells (gC m a l.length cap se nw fu) 29) = w0 := ⟨_, rfl⟩
  have hA0 := bx_new w (gC m a l.length cap se nw fu) 29
  have b0 := oBelow_new w (.cells (gC m a l.length cap se nw fu) 29)
  rw [hw0] at hA0 b0
  obtain ⟨A, hA⟩ : ∃ A, w.heap.size = A := ⟨_, rfl⟩
  rw [hA] at hA0
  have N0 := h.below b0
  obtain ⟨q0, q1, q2, q3, q4⟩ := hA0.five
  unfold gC at hw0 ⊢
  have hmode := fun w => mode_any m w
  cases g0 : decide (0 ≤ m ∧ m ≤ 4)
  case false =>
    rw [g0] at hmode
    have hf : grOkB m l se nw = false := by simp only [grOkB, g0]; rfl
    clear g0
    go_enter Tryd.func5, Tryd.ntmps5
    go_wp2_with fail
    refine (hmode _).mono ?_
    rintro e w1 ⟨rfl, hb1⟩
    have b1 := b0.trans (hb1.mono b0.size)
    go_wp2
    go_ret
    exact ⟨ret_bool (by rw [← HG.out, hf]), b1⟩
  rw [g0] at hmode
  have G0 : Hid (decide (0 ≤ m ∧ m ≤ 4) = true) := g0
  have g0' : 0 ≤ m ∧ m ≤ 4 := by simpa using g0
  clear g0
  by_cases hbd : 1 ≤ l.length ∧ l.length ≤ 12 ∧ 0 ≤ se ∧ se ≤ 24 ∧ 0 ≤ nw ∧ nw ≤ 1000
  case neg =>
    have hf : grOkB m l se nw = false := boundsB m l se nw (by omega)
    go_enter Tryd.func5, Tryd.ntmps5
    go_wp2_with fail
    refine (hmode _).mono ?_
    rintro e w1 ⟨rfl, hb1⟩
    have b1 := b0.trans (hb1.mono b0.size)
    have hA1 := hA0.below hb1
    clear q0 q1 q2 q3 q4 hmode hw0
    obtain ⟨q0, q1, q2, q3, q4⟩ := hA1.five
    rcases (show l.length < 1 ∨ (¬ l.length < 1 ∧ 12 < l.length) ∨ (¬ l.length < 1 ∧ ¬ 12 < l.length ∧ se < 0) ∨ (¬ l.length < 1 ∧ ¬ 12 < l.length ∧ ¬ se < 0 ∧ 24 < se) ∨
        (¬ l.length < 1 ∧ ¬ 12 < l.length ∧ ¬ se < 0 ∧ ¬ 24 < se ∧ nw < 0) ∨ (¬ l.length < 1 ∧ ¬ 12 < l.length ∧ ¬ se < 0 ∧ ¬ 24 < se ∧ ¬ nw < 0 ∧ 1000 < nw) by omega) with c1 | ⟨c1, c2⟩ | ⟨c1, c2, c3⟩ | ⟨c1, c2, c3, c4⟩ | ⟨c1, c2, c3, c4, c5⟩ | ⟨c1, c2, c3, c4, c5, c6⟩
    all_goals clear hbd g0'
    · have d1 : (l.length : Int) < 1 := by omega
      clear c1
      go_wp2
      go_ret
      exact ⟨ret_bool (by rw [← HG.out, hf]), b1⟩
    · have d1 : ¬ (l.length : Int) < 1 := by omega
      have d2 : 12 < (l.length : Int) := by omega
      clear c1 c2
      go_wp2
      go_ret
      exact ⟨ret_bool (by rw [← HG.out, hf]), b1⟩
    · have d1 : ¬ (l.length : Int) < 1 := by omega
      have d2 : ¬ 12 < (l.length : Int) := by omega
      clear c1 c2
      go_wp2
      go_ret
      exact ⟨ret_bool (by rw [← HG.out, hf]), b1⟩
    · have d1 : ¬ (l.length : Int) < 1 := by omega
      have d2 : ¬ 12 < (l.length : Int) := by omega
      clear c1 c2
      go_wp2
      go_ret
      exact ⟨ret_bool (by rw [← HG.out, hf]), b1⟩
    · have d1 : ¬ (l.length : Int) < 1 := by omega
      have d2 : ¬ 12 < (l.length : Int) := by omega
      clear c1 c2
      go_wp2
      go_ret
      exact ⟨ret_bool (by rw [← HG.out, hf]), b1⟩
    · have d1 : ¬ (l.length : Int) < 1 := by omega
      have d2 : ¬ 12 < (l.length : Int) := by omega
      clear c1 c2
      go_wp2
      go_ret
      exact ⟨ret_bool (by rw [← HG.out, hf]), b1⟩
  obtain ⟨l1, l12, s0, s24, n0, n1⟩ := hbd
  have hf : Hid (grOkB m l se nw = nodesB nw 0 (l.drop 0)) := by
    show _ = _
    have e1 : (decide ((1 : Int) ≤ (l.length : Int)) && decide ((l.length : Int) ≤ 12)) = true := by simp; omega
    have e2 : (decide (0 ≤ se) && decide (se ≤ 24)) = true := by simp; omega
    have e3 : (decide (0 ≤ nw) && decide (nw ≤ 1000)) = true := by simp; omega
    simp only [grOkB, G0.out, e1, e2, e3]; rfl
  have d1 : ¬ (l.length : Int) < 1 := by omega
  have d2 : ¬ 12 < (l.length : Int) := by omega
  have d3 : ¬ se < 0 := by omega
  have d4 : ¬ 24 < se := by omega
  have d5 : ¬ nw < 0 := by omega
  have d6 : ¬ 1000 < nw := by omega
  clear g0'
  go_enter Tryd.func5, Tryd.ntmps5
  go_wp2_with fail
  refine (hmode _).mono ?_
  rintro e w1 ⟨rfl, hb1⟩
  have b1 := b0.trans (hb1.mono b0.size)
  have hA1 := hA0.below hb1
  have N1 := N0.below hb1
  clear q0 q1 q2 q3 q4 hmode hw0
  obtain ⟨q0, q1, q2, q3, q4⟩ := hA1.five
  go_wp2
  clear q0 q1 q2 q3 q4 d1 d2 d3 d4 d5 d6 s0 s24
  go_loopw [3, 4] (fun i j wr => ∃ k : Nat, k ≤ l.length ∧ i = .int .i64 k ∧ Hid (nodesB nw 0 (l.drop 0) = nodesB nw k (l.drop k)) ∧ Below w1.heap.size w1 wr) (fun i _ _ => l.length - (intOf i).toNat)
  case atStart => exact ⟨0, Nat.zero_le _, rfl, rfl, Below.refl _ _⟩
  case round =>
    revert hrel
    generalize wr = wo
    intro hrel
    obtain ⟨k, hk, rfl, hr, hb⟩ := hrel
    have be := b1.trans (hb.mono b1.size)
    have hAo := hA1.below hb
    obtain ⟨-, q1, -, q3, -⟩ := hAo.five
    by_cases hlt : k < l.length
    · obtain ⟨b, off, p, rfl, hbl, hc, hids⟩ := (N1.below hb).at hlt
      have hst : Hid (nodesB nw k (l.drop k) = _) := nodesB_step hlt
      generalize l[k] = o at hc hids hst
      have hc' := hc
      obtain ⟨c0, c1, c2, c3, c4, c5, c6, c7, c8, c9⟩ := hc
      have heq := specB_eq o k nw
      cases g4 : specB o k
      case false =>
        have G4 : Hid (specB o k = false) := g4
        have hbad : (partB o k && holdB o nw) = false := by rw [← heq, g4]; rfl
        clear g4 heq
        go_wp2_with fail
        refine (specNode_any o p k _ hids (by omega) (by omega)).mono ?_
        rintro e w3 ⟨rfl, hb3⟩
        rw [G4.out]
        have bz := be.trans (hb3.mono be.size)
        go_wp2
        go_ret
        exact ⟨ret_bool (by rw [← HG.out, hf.out, hr.out, hst.out, hbad]; rfl), bz⟩
      have G4 : Hid (specB o k = true) := g4
      have Hh : Hid ((partB o k && holdB o nw) = !(o.du.any (lateO nw))) := by show _ = _; rw [← heq, g4]; simp
      clear g4 heq
      go_wp2_with fail
      refine (specNode_any o p k _ hids (by omega) (by omega)).mono ?_
      rintro e w3 ⟨rfl, hb3⟩
      rw [G4.out]
      have hb3' := hb.trans (hb3.mono hb.size)
      have bz := be.trans (hb3.mono be.size)
      have hA3 := hAo.below hb3
      have hld := hids.du.len
      unfold maxLen at hld
      have dudu := hids.du.below hb3
      have e8 : w3.cell? ⟨b, off + k * 10 + 8, none⟩ = some (.slice p.a5 o.du.length p.c5) := (hb3.cell hbl).trans c8
      clear q1 q3 c0 c1 c2 c3 c4 c5 c6 c7 c8 c9 hc'
      obtain ⟨-, q1, -, q3, -⟩ := hA3.five
      go_wp2
      go_loopw [4] (fun j wr => ∃ i : Nat, i ≤ o.du.length ∧ j = .int .i64 i ∧ Hid (o.du.any (lateO nw) = (o.du.drop i).any (lateO nw)) ∧ Below w3.heap.size w3 wr) (fun j _ => o.du.length - (intOf j).toNat)
      case atStart => exact ⟨0, Nat.zero_le _, rfl, by show _ = _; simp, Below.refl _ _⟩
      case round =>
        obtain ⟨i, hi, rfl, hri, hbi⟩ := hrel
        have hAr := hA3.below hbi
        have bzi := bz.trans (hbi.mono bz.size)
        obtain ⟨-, q1, -, q3, -⟩ := hAr.five
        have hbl3 : b < w3.heap.size := Nat.lt_of_lt_of_le hbl hb3.size
        have e8 : wr.cell? ⟨b, off + k * 10 + 8, none⟩ = some (.slice p.a5 o.du.length p.c5) := (hbi.cell hbl3).trans e8
        by_cases hlti : i < o.du.length
        · obtain ⟨d, doff, da, dcap, hda, hdl, f0, f1, f2, _⟩ := (dudu.below hbi).at hlti
          rw [hda] at e8
          clear hda
          have hsti : Hid ((o.du.drop i).any (lateO nw) = _) := any_step hlti
          generalize o.du[i] = oc at f0 f1 f2 hsti
          by_cases hle : oc.tl ≤ nw
          · have hlate : Hid (lateO nw oc = true) := by show _ = _; simp [lateO, hle]
            have dle : decide (oc.tl ≤ nw) = true := by simpa using hle
            go_wp2
            go_quiet (fail)
            have hbe : Below w.heap.size w (wr.drewN nq) := bzi.trans ⟨rfl, rfl, rfl, Nat.le_refl _, fun _ _ => rfl⟩
            go_wp2
            go_ret
            exact ⟨ret_bool (by rw [← HG.out, hf.out, hr.out, hst.out, Hh.out, hri.out, hsti.out, hlate.out]; rfl), by first | exact hbe | (rw [← hA]; exact hbe)⟩
          · have hlate : Hid (lateO nw oc = false) := by show _ = _; simp [lateO]; omega
            have dle : decide (oc.tl ≤ nw) = false := by simpa using hle
            go_wp2
            go_quiet (fail)
            have hbn : Below w3.heap.size w3 (wr.drewN nq) := hbi.trans ⟨rfl, rfl, rfl, Nat.le_refl _, fun _ _ => rfl⟩
            go_wp2
            exact ⟨⟨i + 1, by omega, by go_num, by show _ = _; rw [hri.out, hsti.out, hlate.out]; rfl, hbn⟩, by simp [intOf]; omega⟩
        · have hbn := hb3'.trans (hbi.mono hb3'.size)
          go_wp2
          exact ⟨⟨k + 1, by omega, by go_num, by show _ = _; rw [hr.out, hst.out, Hh.out, hri.out, any_end hlti]; rfl, hbn⟩, by simp [intOf]; omega⟩
    · go_wp2
      go_ret
      exact ⟨ret_bool (by rw [← HG.out, hf.out, hr.out, nodesB_end hlt]), by first | exact be | (rw [← hA]; exact be)⟩
end Go.Proofs.YtlfejpakmgbpnaaDoor
