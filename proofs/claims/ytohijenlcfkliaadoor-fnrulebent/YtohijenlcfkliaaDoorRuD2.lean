/- Rules, drawn, one in twelve bent; the laws' draw of such a list. -/
import Derived.Test.YtohijenlcfkliaaDoorRuD1
namespace Go.Proofs.YtohijenlcfkliaaDoor
open Go.ChangeShapes Go.WideShapes Go.ChangeAt Go.RowKit Go.Deep
set_option linter.unusedVariables false
set_option maxRecDepth 4000

set_option maxHeartbeats 1000000 in
theorem of_any (R b cap n : Nat) (p : Nat) (w : World) (h : Rd w R p) (hp : p < 100000) (hl0 : 0 < n) (hl1 : n ≤ 1000) (hne : b ≠ R) (hbl : b < w.heap.size) (hs : ∀ i, i < n → ∃ s : ByteArray, w.cell? ⟨b, i, none⟩ = some (.string s) ∧ s.size ≤ 7) :
    Calls Tryd.prog 41 #[.pointer (some ⟨R, 0, none⟩), .slice (some ⟨b, 0, none⟩) n cap] w
      fun e w' => ∃ s : ByteArray, s.size ≤ 7 ∧ e = .returned (.string s) ∧ Rd w' R (p + 1) ∧ w.grownBy w' (some R) := by
  have hcall := pick_any R (n : Int) p w h hp (by omega) (by omega)
  go_enter Tryd.func41, Tryd.ntmps41
  go_wp2_with fail
  refine hcall.mono ?_
  rintro e w1 ⟨v, rfl, _, hv, hR1, hg1⟩
  have hvl : v < n := by have := hv (by omega); omega
  obtain ⟨s, hc, hsz⟩ := hs v hvl
  have hk := hg1.block b hbl (fun e => hne (by simpa using e))
  have c0 : w1.cell? ⟨b, v, none⟩ = some (.string s) := (World.cell?_of_block (w := w) hk).trans hc
  have c1 : w1.cell? ⟨b, 0 + v, none⟩ = some (.string s) := by rw [Nat.zero_add]; exact c0
  go_wp2
  go_ret
  exact ⟨s, hsz, rfl, hR1, hg1⟩

set_option maxHeartbeats 4000000 in
theorem l8Bent_any (R p : Nat) (w : World) (h : Rd w R p) (hp : p ≤ 80000) : Calls Tryd.prog 18 #[.pointer (some ⟨R, 0, none⟩)] w (RulesDraw w R p 7000) := by
  have hRl := h.lt
  go_enter Tryd.func18, Tryd.ntmps18
  go_wp2_with fail
  refine (l8Rules_any R p _ h hp).mono ?_
  rintro e w1 ⟨v, q, p1, rfl, hR1, hp0, hp1, hg1, hO1, hq4, hB1⟩
  obtain ⟨va, vc, rfl, hvc, hvm⟩ := hO1.slice
  unfold maxLen at hvm
  by_cases h0 : q.length = 0
  · have h0b : ((q.length : Int) == 0) = true := by simp [h0]
    go_wp2
    go_ret
    exact ⟨_, q, p1, rfl, hR1, hp0, by omega, hg1, (by rw [h0] at hO1; exact hO1), by omega, hB1⟩
  have hz : ((q.length : Int) == 0) = false := by simpa using h0
  obtain ⟨n, hn⟩ : ∃ n, q.length = n := ⟨_, rfl⟩
  have Hn : Hid (q.length = n) := hn
  have hrow : ∃ g, va = some ⟨g, 0, none⟩ := by
    rcases hO1.row.2 with ⟨e, h1⟩ | ⟨g, cap, cur, e, _⟩
    · exact absurd h1 h0
    · simp only [Value.slice.injEq] at e
      exact ⟨g, e.1⟩
  obtain ⟨g, rfl⟩ := hrow
  rw [hn] at hO1 hvc hz h0 hq4 ⊢
  clear hn
  go_wp2_with fail
  refine (pick_any R (n : Int) p1 _ hR1 (by omega) (by omega) (by omega)).mono ?_
  rintro e w2 ⟨k, rfl, _, hk, hR2, hg2⟩
  have hkn : k < n := by have := hk (by omega); omega
  have hO2 := hO1.grown hg2 hRl
  have hg02 := grownBy_trans hg1 hg2
  go_wp2_with fail
  refine (pick_any R 60 (p1 + 1) _ hR2 (by omega) (by omega) (by omega)).mono ?_
  rintro e w3 ⟨c, rfl, _, hc60, hR3, hg3⟩
  have hO3 := hO2.grown hg3 hRl
  have hg03 := grownBy_trans hg02 hg3
  have hcc : (c : Int) < 60 := hc60 (by omega)
  clear hc60 hk hO1 hO2 hR1 hR2 hg1 hg2 hg3 hg02
  have hwl : w.heap.size ≤ w3.heap.size := hg03.4
  have hgw := hO3.row.lt g rfl
  have hkq : k < q.length := by rw [Hn.out]; exact hkn
  have hBk := hB1 _ (List.getElem_mem hkq)
  have cs : c = 0 ∨ c = 1 ∨ c = 2 ∨ c = 3 ∨ c = 4 ∨ c = 5 ∨ 6 ≤ c := by omega
  rcases cs with rfl | rfl | rfl | rfl | rfl | rfl | h6
  · have hbA := xBelow_new w3 (.cells #[.string { data := #[] }, .string { data := #[65] }, .string { data := #[116, 111, 111, 108, 111, 110, 103] }, .string { data := #[111, 110, 101] }] 9)
    have hX := bx_new w3 #[.string { data := #[] }, .string { data := #[65] }, .string { data := #[116, 111, 111, 108, 111, 110, 103] }, .string { data := #[111, 110, 101] }] 9
    obtain ⟨wA, hwA⟩ : ∃ wA, w3.alloc (.cells #[.string { data := #[] }, .string { data := #[65] }, .string { data := #[116, 111, 111, 108, 111, 110, 103] }, .string { data := #[111, 110, 101] }] 9) = wA := ⟨_, rfl⟩
    rw [hwA] at hbA hX
    have hRA := hR3.below hbA
    have hOA := hO3.below hbA
    have hgA := grown_below' hg03 hbA
    go_wp2_with fail
    refine (of_any R w3.heap.size 4 4 (p1 + 1 + 1) _ hRA (by omega) (by omega) (by omega) (by omega) hX.lt (fun i hi => by
      have cs : i = 0 ∨ i = 1 ∨ i = 2 ∨ i = 3 := by omega
      rcases cs with rfl | rfl | rfl | rfl <;> exact ⟨_, hX.cell _ rfl, by decide⟩)).mono ?_
    rintro e w5 ⟨s, hs, rfl, hR5, hg5⟩
    clear hwA hX
    have hO5 := hOA.grown hg5 hRl
    have hgz := grownBy_trans hgA hg5
    obtain ⟨y0, hy0⟩ := rh_cell hO5 hkq 0 (by omega)
    have fz := rh_free hO5
    obtain ⟨k1, k2, T', k3, k4⟩ := hO5.kids _ (List.getElem_mem hkq)
    have hO6 := hO5.set hkq 0 (by omega) (.string s) ⟨{ (q[k]).x with nm := s }, q[k].a, q[k].c⟩ rfl ⟨k1, by unfold maxLen; show s.size ≤ _; omega, T', k3, fun b hb => ⟨(k4 b hb).1, (k4 b hb).2.1, fun e => (k4 b hb).2.2 (by rw [e]; rfl)⟩⟩
    have hR6 := xd_rd_set hR5 (b := g) (by omega) (k * 12 + 0) (.string s)
    have hg6 := xd_new hgz (b := g) hgw.1 (k * 12 + 0) (.string s)
    simp only [Nat.add_zero] at hy0 hO6 hR6 hg6
    go_wp2
    go_ret
    exact ⟨_, _, p1 + 1 + 1 + 1, rfl, hR6, by omega, by omega, hg6, hO6, by rw [List.length_set, Hn.out]; exact hq4, fun y hy => by
      rcases List.mem_or_eq_of_mem_set hy with hy | rfl
      · exact hB1 y hy
      · exact ⟨hBk.1, hs⟩⟩
  · have hbA := xBelow_new w3 (.cells #[.int .i64 (-1), .int .i64 10] 3)
    have hIA := ints_made w3 [-1, 10] (by decide) 3
    have hIA : Ints (w3.alloc (.cells #[.int .i64 (-1), .int .i64 10] 3)) (some ⟨w3.heap.size, 0, none⟩) [-1, 10] := hIA
    obtain ⟨wA, hwA⟩ : ∃ wA, w3.alloc (.cells #[.int .i64 (-1), .int .i64 10] 3) = wA := ⟨_, rfl⟩
    rw [hwA] at hbA hIA
    have hRA := hR3.below hbA
    have hOA := hO3.below hbA
    have hgA := grown_below' hg03 hbA
    go_wp2_with fail
    refine (num_any R _ 2 [-1, 10] (p1 + 1 + 1) _ hRA (by omega) hIA (by decide) (by decide) (fun z hz => by cases hz; show w3.heap.size ≠ R; omega)).mono ?_
    rintro e w5 ⟨s, hs, rfl, hR5, hg5⟩
    clear hwA hIA hs
    have hO5 := hOA.grown hg5 hRl
    have hgz := grownBy_trans hgA hg5
    obtain ⟨y0, hy0⟩ := rh_cell hO5 hkq 1 (by omega)
    have fz := rh_free hO5
    obtain ⟨k1, k2, T', k3, k4⟩ := hO5.kids _ (List.getElem_mem hkq)
    have hO6 := hO5.set hkq 1 (by omega) (.int .i64 s) ⟨{ (q[k]).x with pri := s }, q[k].a, q[k].c⟩ rfl ⟨k1, k2, T', k3, fun b hb => ⟨(k4 b hb).1, (k4 b hb).2.1, fun e => (k4 b hb).2.2 (by rw [e]; rfl)⟩⟩
    have hR6 := xd_rd_set hR5 (b := g) (by omega) (k * 12 + 1) (.int .i64 s)
    have hg6 := xd_new hgz (b := g) hgw.1 (k * 12 + 1) (.int .i64 s)
    go_wp2
    go_ret
    exact ⟨_, _, p1 + 1 + 1 + 1, rfl, hR6, by omega, by omega, hg6, hO6, by rw [List.length_set, Hn.out]; exact hq4, fun y hy => by
      rcases List.mem_or_eq_of_mem_set hy with hy | rfl
      · exact hB1 y hy
      · exact ⟨hBk.1, hBk.2⟩⟩
  · have hbA := xBelow_new w3 (.cells #[.int .i64 (-1), .int .i64 101] 3)
    have hIA := ints_made w3 [-1, 101] (by decide) 3
    have hIA : Ints (w3.alloc (.cells #[.int .i64 (-1), .int .i64 101] 3)) (some ⟨w3.heap.size, 0, none⟩) [-1, 101] := hIA
    obtain ⟨wA, hwA⟩ : ∃ wA, w3.alloc (.cells #[.int .i64 (-1), .int .i64 101] 3) = wA := ⟨_, rfl⟩
    rw [hwA] at hbA hIA
    have hRA := hR3.below hbA
    have hOA := hO3.below hbA
    have hgA := grown_below' hg03 hbA
    go_wp2_with fail
    refine (num_any R _ 2 [-1, 101] (p1 + 1 + 1) _ hRA (by omega) hIA (by decide) (by decide) (fun z hz => by cases hz; show w3.heap.size ≠ R; omega)).mono ?_
    rintro e w5 ⟨s, hs, rfl, hR5, hg5⟩
    clear hwA hIA hs
    have hO5 := hOA.grown hg5 hRl
    have hgz := grownBy_trans hgA hg5
    obtain ⟨y0, hy0⟩ := rh_cell hO5 hkq 7 (by omega)
    have fz := rh_free hO5
    obtain ⟨k1, k2, T', k3, k4⟩ := hO5.kids _ (List.getElem_mem hkq)
    have hO6 := hO5.set hkq 7 (by omega) (.int .i64 s) ⟨{ (q[k]).x with lo := s }, q[k].a, q[k].c⟩ rfl ⟨k1, k2, T', k3, fun b hb => ⟨(k4 b hb).1, (k4 b hb).2.1, fun e => (k4 b hb).2.2 (by rw [e]; rfl)⟩⟩
    have hR6 := xd_rd_set hR5 (b := g) (by omega) (k * 12 + 7) (.int .i64 s)
    have hg6 := xd_new hgz (b := g) hgw.1 (k * 12 + 7) (.int .i64 s)
    go_wp2
    go_ret
    exact ⟨_, _, p1 + 1 + 1 + 1, rfl, hR6, by omega, by omega, hg6, hO6, by rw [List.length_set, Hn.out]; exact hq4, fun y hy => by
      rcases List.mem_or_eq_of_mem_set hy with hy | rfl
      · exact hB1 y hy
      · exact ⟨hBk.1, hBk.2⟩⟩
  · skip
    obtain ⟨y0, hy0⟩ := rh_cell hO3 hkq 9 (by omega)
    have fz := rh_free hO3
    obtain ⟨k1, k2, T', k3, k4⟩ := hO3.kids _ (List.getElem_mem hkq)
    have hO6 := hO3.set hkq 9 (by omega) (.int .i64 4) ⟨{ (q[k]).x with key := 4 }, q[k].a, q[k].c⟩ rfl ⟨k1, k2, T', k3, fun b hb => ⟨(k4 b hb).1, (k4 b hb).2.1, fun e => (k4 b hb).2.2 (by rw [e]; rfl)⟩⟩
    have hR6 := xd_rd_set hR3 (b := g) (by omega) (k * 12 + 9) (.int .i64 4)
    have hg6 := xd_new hg03 (b := g) hgw.1 (k * 12 + 9) (.int .i64 4)
    go_wp2
    go_ret
    exact ⟨_, _, p1 + 1 + 1, rfl, hR6, by omega, by omega, hg6, hO6, by rw [List.length_set, Hn.out]; exact hq4, fun y hy => by
      rcases List.mem_or_eq_of_mem_set hy with hy | rfl
      · exact hB1 y hy
      · exact ⟨hBk.1, hBk.2⟩⟩
  · have hbA := xBelow_new w3 (.cells #[.int .i64 (-10), .int .i64 10, .int .i64 (-9)] 3)
    have hIA := ints_made w3 [-10, 10, -9] (by decide) 3
    have hIA : Ints (w3.alloc (.cells #[.int .i64 (-10), .int .i64 10, .int .i64 (-9)] 3)) (some ⟨w3.heap.size, 0, none⟩) [-10, 10, -9] := hIA
    obtain ⟨wA, hwA⟩ : ∃ wA, w3.alloc (.cells #[.int .i64 (-10), .int .i64 10, .int .i64 (-9)] 3) = wA := ⟨_, rfl⟩
    rw [hwA] at hbA hIA
    have hRA := hR3.below hbA
    have hOA := hO3.below hbA
    have hgA := grown_below' hg03 hbA
    go_wp2_with fail
    refine (num_any R _ 3 [-10, 10, -9] (p1 + 1 + 1) _ hRA (by omega) hIA (by decide) (by decide) (fun z hz => by cases hz; show w3.heap.size ≠ R; omega)).mono ?_
    rintro e w5 ⟨s, hs, rfl, hR5, hg5⟩
    clear hwA hIA hs
    have hO5 := hOA.grown hg5 hRl
    have hgz := grownBy_trans hgA hg5
    obtain ⟨y0, hy0⟩ := rh_cell hO5 hkq 10 (by omega)
    have fz := rh_free hO5
    obtain ⟨k1, k2, T', k3, k4⟩ := hO5.kids _ (List.getElem_mem hkq)
    have hO6 := hO5.set hkq 10 (by omega) (.int .i64 s) ⟨{ (q[k]).x with add := s }, q[k].a, q[k].c⟩ rfl ⟨k1, k2, T', k3, fun b hb => ⟨(k4 b hb).1, (k4 b hb).2.1, fun e => (k4 b hb).2.2 (by rw [e]; rfl)⟩⟩
    have hR6 := xd_rd_set hR5 (b := g) (by omega) (k * 12 + 10) (.int .i64 s)
    have hg6 := xd_new hgz (b := g) hgw.1 (k * 12 + 10) (.int .i64 s)
    go_wp2
    go_ret
    exact ⟨_, _, p1 + 1 + 1 + 1, rfl, hR6, by omega, by omega, hg6, hO6, by rw [List.length_set, Hn.out]; exact hq4, fun y hy => by
      rcases List.mem_or_eq_of_mem_set hy with hy | rfl
      · exact hB1 y hy
      · exact ⟨hBk.1, hBk.2⟩⟩
  · go_wp2_with fail
    refine (l2Bent_any R (p1 + 1 + 1) _ hR3 (by omega)).mono ?_
    rintro e w5 ⟨kd, sy, nn, a, cap, F, S, p5, rfl, hR5, hq0, hq1, hg5, hO, hnd, hS, hl3, hz5, _⟩
    have hO5 := hO3.grown hg5 hRl
    have hgz := grownBy_trans hg03 hg5
    obtain ⟨y0, hy0⟩ := rh_cell hO5 hkq 3 (by omega)
    obtain ⟨y1, hy1⟩ := rh_cell hO5 hkq 4 (by omega)
    obtain ⟨y2, hy2⟩ := rh_cell hO5 hkq 5 (by omega)
    obtain ⟨y3, hy3⟩ := rh_cell hO5 hkq 6 (by omega)
    have fz := rh_free hO5
    obtain ⟨k1, k2, T', k3, k4⟩ := hO5.kids _ (List.getElem_mem hkq)
    have hS' : ∀ y ∈ S, w.heap.size ≤ y ∧ y < w5.heap.size ∧ y ≠ g := fun y hy => by have := hS y hy; omega
    have hO6 := hO5.set4 hkq kd sy nn a cap F hO (by unfold maxLen; omega) hS'
    have hR6 := xd_rd_set (xd_rd_set (xd_rd_set (xd_rd_set hR5 (b := g) (by omega) (k * 12 + 3) (.int .i64 kd)) (b := g) (by omega) (k * 12 + 4) (.int .i64 sy)) (b := g) (by omega) (k * 12 + 5) (.int .i64 nn)) (b := g) (by omega) (k * 12 + 6) (.slice a F.len cap)
    have hg6 := xd_new (xd_new (xd_new (xd_new hgz (b := g) hgw.1 (k * 12 + 3) (.int .i64 kd)) (b := g) hgw.1 (k * 12 + 4) (.int .i64 sy)) (b := g) hgw.1 (k * 12 + 5) (.int .i64 nn)) (b := g) hgw.1 (k * 12 + 6) (.slice a F.len cap)
    go_wp2
    go_ret
    exact ⟨_, _, p5, rfl, hR6, by omega, by omega, hg6, hO6, by rw [List.length_set, Hn.out]; exact hq4, fun y hy => by
      rcases List.mem_or_eq_of_mem_set hy with hy | rfl
      · exact hB1 y hy
      · exact ⟨hz5, hBk.2⟩⟩
  · have e0 : ((c : Int) == 0) = false := by simp; omega
    have e1 : ((c : Int) == 1) = false := by simp; omega
    have e2 : ((c : Int) == 2) = false := by simp; omega
    have e3 : ((c : Int) == 3) = false := by simp; omega
    have e4 : ((c : Int) == 4) = false := by simp; omega
    have e5 : ((c : Int) == 5) = false := by simp; omega
    go_wp2
    go_ret
    exact ⟨_, q, p1 + 1 + 1, rfl, hR3, by omega, by omega, hg03, hO3, by rw [Hn.out]; exact hq4, hB1⟩

set_option maxHeartbeats 1000000 in
theorem drawRulesOrder_any (a : Option Addr) (cap : Nat) (l : List Int) (w : World) (h : Bytes w a l) (hc : l.length ≤ cap) :
    Calls Tryd.prog 5 #[.slice a l.length cap] w fun e w' => ∃ (v : Value) (q : List RH), e = .returned v ∧ RuOwn w' w.heap.size v q ∧ q.length ≤ 4 ∧ (∀ y ∈ q, RuBnd y.x) ∧ Below w.heap.size w w' := by
  go_enter Tryd.func5, Tryd.ntmps5
  go_wp2_with fail
  refine (l14Open_any _ _ l _ h hc).mono ?_
  rintro e w1 ⟨rfl, hR1, hb1, hs1⟩
  go_wp2_with fail
  refine (l8Bent_any _ 0 _ hR1 (by omega)).mono ?_
  rintro e w2 ⟨v, q, p2, rfl, hR2, hp0, hp2, hg2, hO2, hq4, hB⟩
  go_wp2
  go_ret
  exact ⟨v, q, rfl, hO2.low (by omega), hq4, hB, ⟨hg2.1.trans hb1.os, hg2.2.trans hb1.tape, hg2.3.trans hb1.output, Nat.le_trans hb1.size hg2.4, fun b hb => (hg2.5 b (Nat.lt_of_lt_of_le hb hb1.size) (fun e => by have := Option.some.inj e; omega)).trans (hb1.block b hb)⟩⟩
end Go.Proofs.YtohijenlcfkliaaDoor
