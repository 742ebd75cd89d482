/- Whatever bytes it is drawn by: what is looked for and bent at any one place is not ok, and has no text and no names; its parts are ok where it is. No condition. -/
import Derived.Test.YtpokhhplgljmiaaDoorExBd
import Derived.Test.YtpokhhplgljmiaaDoorExS2
import Derived.Test.YtpokhhplgljmiaaDoorCards
import Derived.Test.YtpokhhplgljmiaaDoorTie
import Derived.Deep.DeepHandedRow
import Derived.LaidLaws
import Derived.MakeChecks
import Derived.Stop.ErrReads
import Derived.RowKitTokens
namespace Go.Proofs.YtpokhhplgljmiaaDoor.fnExBent
open Go.ChangeShapes Go.WideShapes Go.ChangeAt Go.RowKit Go.Deep
set_option linter.unusedVariables false
set_option maxRecDepth 4000

theorem four {w : World} {A : Nat} {kd sy n : Int} {s : Value} (h : Bx w A #[.int .i64 kd, .int .i64 sy, .int .i64 n, s]) :
    w.cell? ⟨A, 0, none⟩ = some (.int .i64 kd) ∧ w.cell? ⟨A, 1, none⟩ = some (.int .i64 sy) ∧ w.cell? ⟨A, 2, none⟩ = some (.int .i64 n) ∧ w.cell? ⟨A, 3, none⟩ = some s :=
  ⟨h.cell 0 rfl, h.cell 1 rfl, h.cell 2 rfl, h.cell 3 rfl⟩
theorem four' {w : World} {A : Nat} {kd sy n : Int} {s : Value} (h : OB w A #[.int .i64 kd, .int .i64 sy, .int .i64 n, s]) :
    w.cell? ⟨A, 0, none⟩ = some (.int .i64 kd) ∧ w.cell? ⟨A, 1, none⟩ = some (.int .i64 sy) ∧ w.cell? ⟨A, 2, none⟩ = some (.int .i64 n) ∧ w.cell? ⟨A, 3, none⟩ = some s :=
  ⟨h.cell 0 rfl, h.cell 1 rfl, h.cell 2 rfl, h.cell 3 rfl⟩
/-- Copied to a row of one's own, and one part more behind. -/
theorem more_run {w0 w : World} {p : Option Addr} {c : Nat} {F : Fo} (h : Slc w0 p F) (hw : Below w0.heap.size w0 w) (hl : F.len ≤ 3) :
    ∃ w1, w.alloc (.cells #[] 25) = w1 ∧ ∃ v2 w2, (Builtin.append_ #[23, 23] 23 #[.slice (some ⟨w.heap.size, 0, none⟩) 0 0, .slice p F.len c]).run Tryd.prog w1 = .ok v2 w2 ∧
      ∃ w3, w2.alloc (.cells #[.int .i64 1, .int .i64 0, .int .i64 0, .slice none 0 0] 25) = w3 ∧
      ∃ g cv w4, (Builtin.append_ #[23, 23] 23 #[v2, .slice (some ⟨w2.heap.size, 0, none⟩) 1 1]).run Tryd.prog w3 = .ok (.slice (some ⟨g, 0, none⟩) (F.len + 1) cv) w4 ∧
      (∃ q, RdHeads w0 q F ∧ w4.ownsRow w.heap.size 25 4 (.slice (some ⟨g, 0, none⟩) (F.len + 1) cv) (q ++ [(⟨1, 0, 0, none, 0, 0⟩ : Hd)]).length (hdCells (q ++ [(⟨1, 0, 0, none, 0, 0⟩ : Hd)]))) ∧ Below w.heap.size w w4 := by
  obtain ⟨i0, hinf, hz0, hz1, hz2⟩ := info_ex_parts
  obtain ⟨w1, hw1⟩ : ∃ w1, w.alloc (.cells #[] 25) = w1 := ⟨_, rfl⟩
  have hb1 : Below w.heap.size w w1 := by rw [← hw1]; exact xBelow_new _ _
  have o1 : w1.ownsRow w.heap.size 25 4 (.slice (some ⟨w.heap.size, 0, none⟩) 0 0) 0 [] := by rw [← hw1]; exact World.ownsRow_made _ _ _ (Nat.le_refl _) (by simp [maxLen]) rfl
  have step1 : ∃ (q : List Hd) (v2 : Value) (w2 : World), (Builtin.append_ #[23, 23] 23 #[.slice (some ⟨w.heap.size, 0, none⟩) 0 0, .slice p F.len c]).run Tryd.prog w1 = .ok v2 w2 ∧ w2.ownsRow w.heap.size 25 4 v2 q.length (hdCells q) ∧ RdHeads w0 q F ∧ Below w.heap.size w w2 := by
    by_cases h0 : F.len = 0
    · have hF : F = .nil := by cases F with
        | nil => rfl
        | cons => simp [Fo.len] at h0
      subst hF
      have hn : (Builtin.append_ #[23, 23] 23 #[.slice (some ⟨w.heap.size, 0, none⟩) 0 0, .slice p 0 c]).run Tryd.prog w1 = .ok (.slice (some ⟨w.heap.size, 0, none⟩) 0 0) w1 := by
        cases p <;> simp [Builtin.append_, run_underlying Tryd.underlying23, sizeOf, typeInfo, hinf, Builtin.lenOf, Builtin.firstCells, storeCells, loadCells, loadCellsFrom]
      exact ⟨[], _, w1, hn, o1, trivial, hb1⟩
    · obtain ⟨b, off, rfl, hbl, hk⟩ := h.cells (by omega)
      obtain ⟨q, hq, hc⟩ := kids_heads F b off hk
      have hql := hq.len
      obtain ⟨v2, w2, hrun, r1, r2, r3⟩ := append_where (P := Tryd.prog) w1 w.heap.size 23 23 25 i0 (.agg #[.int .i64 0, .int .i64 0, .int .i64 0, .slice none 0 0]) 4 48 Tryd.underlying23 hinf hz0 hz1 hz2 rfl (by decide) (.slice (some ⟨w.heap.size, 0, none⟩) 0 0) 0 [] o1 ⟨b, off, none⟩ F.len c (hdCells q) (by rw [← hql]; exact hdCells_len q)
        (by intro j u hj; rw [add_plain, hb1.cell (Nat.lt_of_lt_of_le hbl hw.size), hw.cell hbl]; exact hc j u hj) (fun u hu => by
          obtain ⟨y, _, hy⟩ := List.mem_flatMap.1 hu
          simp at hy; rcases hy with rfl | rfl | rfl | rfl <;> rfl) (by unfold maxLen; omega) (by omega) hb1.size
      have b2 : Below w.heap.size w w2 := hb1.trans ⟨r2.1, r2.2, r2.3, r2.4, fun x hx => r2.5 x (Nat.lt_of_lt_of_le hx hb1.size) (fun e => by have : x = w.heap.size := Option.some.inj e; omega)⟩
      rw [Nat.zero_add, List.nil_append] at r1
      exact ⟨q, v2, w2, hrun, by rw [hql]; exact r1, hq, b2⟩
  obtain ⟨q, v2, w2, hrun2, o2, hq2, b2⟩ := step1
  obtain ⟨w3, hw3⟩ : ∃ w3, w2.alloc (.cells #[.int .i64 1, .int .i64 0, .int .i64 0, .slice none 0 0] 25) = w3 := ⟨_, rfl⟩
  have hb3 : Below w2.heap.size w2 w3 := by rw [← hw3]; exact xBelow_new _ _
  have hn3 : w3.heap[w2.heap.size]? = some (.cells #[.int .i64 1, .int .i64 0, .int .i64 0, .slice none 0 0] 25 (0, 0)) := by rw [← hw3]; exact heap_alloc_new _ _
  have o3 := owns_below o2 hb3
  have hql := hq2.len
  obtain ⟨v4, w4, hrun4, r1, r2, r3⟩ := append_where (P := Tryd.prog) w3 w.heap.size 23 23 25 i0 (.agg #[.int .i64 0, .int .i64 0, .int .i64 0, .slice none 0 0]) 4 48 Tryd.underlying23 hinf hz0 hz1 hz2 rfl (by decide) v2 q.length (hdCells q) o3 ⟨w2.heap.size, 0, none⟩ 1 1 [.int .i64 1, .int .i64 0, .int .i64 0, .slice none 0 0] rfl
    (by intro j x hj; rw [add_plain, cell_at hn3]; simpa using hj)
    (by intro x hx; simp at hx; rcases hx with rfl | rfl | rfl <;> rfl) (by unfold maxLen; omega) (by omega) (by have := b2.size; have := hb3.size; omega)
  obtain ⟨g, cv, rfl⟩ := ownsRow_succ r1
  have b3 := b2.trans (hb3.mono b2.size)
  have b4 : Below w.heap.size w w4 := b3.trans ⟨r2.1, r2.2, r2.3, r2.4, fun x hx => r2.5 x (Nat.lt_of_lt_of_le hx b3.size) (fun e => by have := (o3.lt x e.symm).1; omega)⟩
  rw [hql] at hrun4 r1
  have r1' : w4.ownsRow w.heap.size 25 4 (.slice (some ⟨g, 0, none⟩) (F.len + 1) cv) (q ++ [(⟨1, 0, 0, none, 0, 0⟩ : Hd)]).length (hdCells (q ++ [(⟨1, 0, 0, none, 0, 0⟩ : Hd)])) := by
    rw [hdCells_snoc, List.length_append, hql]; exact r1
  exact ⟨w1, hw1, v2, w2, hrun2, w3, hw3, g, cv, w4, hrun4, ⟨q, hq2, r1'⟩, b4⟩



set_option maxHeartbeats 4000000 in
theorem walk (a : Option Addr) (cap : Nat) (bs : List Int) (w : World) (t : TypeId) (v : Value) (h : Bytes w a bs ∧ bs.length ≤ cap) (hE : ErrAt w t v) :
    Calls Tryd.prog 3 #[.slice a bs.length cap] w fun e w' => e = .returned (.bool true) ∧ Below w.heap.size w w' := by
  obtain ⟨hB, hc⟩ := h
  have hlen := hB.len
  unfold maxLen at hlen
  by_cases hbig : (1048576 : Int) < (bs.length : Int)
  · go_enter Tryd.func3, Tryd.ntmps3
    go_wp2
    go_ret
    exact ⟨rfl, Below.refl _ _⟩
  go_enter Tryd.func3, Tryd.ntmps3
  go_wp2_with fail
  refine (drawExOk_any _ _ bs _ hB hc).mono ?_
  rintro e w1 ⟨kd, sy, n, p, c, F, rfl, hin, hl3, hz, hk, hb1⟩
  obtain ⟨w3, hw3⟩ : ∃ w3, w1.alloc (.cells #[.int .i64 kd, .int .i64 sy, .int .i64 n, .slice p F.len c] 25) = w3 := ⟨_, rfl⟩
  have hA3 := bx_new w1 #[.int .i64 kd, .int .i64 sy, .int .i64 n, .slice p F.len c] 25
  have hb3 := xBelow_new w1 (.cells #[.int .i64 kd, .int .i64 sy, .int .i64 n, .slice p F.len c] 25)
  rw [hw3] at hA3 hb3
  obtain ⟨A, hAe⟩ : ∃ A, w1.heap.size = A := ⟨_, rfl⟩
  rw [hAe] at hA3
  have b03 := hb1.trans (hb3.mono hb1.size)
  have hin3 := hin.below hb3
  have hE3 := hE.below b03
  have hcI := fun (u : After w3) => calls_after (u := u) (implExOk_any kd sy n p c F u.v t v (hE3.below u.h) (hin3.below u.h))
  have hcS := fun (u : After w3) => calls_after (u := u) (specExOk_any kd sy n p c F u.v (hin3.below u.h) (by omega))
  obtain ⟨q0, q1, q2, q3⟩ := four hA3
  have a0 := fun u : After w3 => u.cell q0 hA3.lt
  have a1 := fun u : After w3 => u.cell q1 hA3.lt
  have a2 := fun u : After w3 => u.cell q2 hA3.lt
  have a3 := fun u : After w3 => u.cell q3 hA3.lt
  cases hok : okX kd sy n F
  · rw [hok] at hcI hcS
    go_wp2
    have hany := after_any
    refine wp_region_after (by kernel_rfl) (by kernel_rfl) ?_
    repeat (go_big_quiet_step (first | (go_at_call 6; refine hcI _) | (go_at_call 7; refine hcS _)))
    refine wpQuiet_nil ?_
    intro w4 hu
    have hb4 := after_of hu
    have hA4 := hA3.below hb4
    have hin4 := hin3.below hb4
    have hE4 := hE3.below hb4
    have b04 := b03.trans (hb4.mono b03.size)
    clear hu a0 a1 a2 a3 q0 q1 q2 q3 hcI hcS hany hw3
    have hcI := fun (u : After w4) => calls_after (u := u) (implExOk_any kd sy n p c F u.v t v (hE4.below u.h) (hin4.below u.h))
    have hcS := fun (u : After w4) => calls_after (u := u) (specExOk_any kd sy n p c F u.v (hin4.below u.h) (by omega))
    rw [hok] at hcI hcS
    obtain ⟨q0, q1, q2, q3⟩ := four hA4
    have a0 := fun u : After w4 => u.cell q0 hA4.lt
    have a1 := fun u : After w4 => u.cell q1 hA4.lt
    have a2 := fun u : After w4 => u.cell q2 hA4.lt
    have a3 := fun u : After w4 => u.cell q3 hA4.lt
    go_wp2
    have hany := after_any
    refine wp_region_after (by kernel_rfl) (by kernel_rfl) ?_
    repeat (go_big_quiet_step (first | (go_at_call 6; refine hcI _) | (go_at_call 7; refine hcS _)))
    refine wpQuiet_nil ?_
    intro w5 hu
    have b05 := b04.trans ((after_of hu).mono b04.size)
    clear hu
    go_wp2
    go_ret
    exact ⟨rfl, b05⟩
  rw [hok] at hcI hcS
  go_wp2
  have hany := after_any
  refine wp_region_after (by kernel_rfl) (by kernel_rfl) ?_
  repeat (go_big_quiet_step (first | (go_at_call 6; refine hcI _) | (go_at_call 7; refine hcS _)))
  refine wpQuiet_nil ?_
  intro w4 hu
  have hb4 := after_of hu
  have hA4 := hA3.below hb4
  have hin4 := hin3.below hb4
  have hE4 := hE3.below hb4
  have b04 := b03.trans (hb4.mono b03.size)
  clear hu a0 a1 a2 a3 q0 q1 q2 q3 hcI hcS hany hw3
  obtain ⟨u5, hu5⟩ : ∃ u, w4.alloc (.cells #[.int .i64 kd, .int .i64 sy, .int .i64 n, .slice p F.len c] 25) = u := ⟨_, rfl⟩
  have hN5 := ob_new w4 #[.int .i64 kd, .int .i64 sy, .int .i64 n, .slice p F.len c] 25
  have bN5 := xBelow_new w4 (.cells #[.int .i64 kd, .int .i64 sy, .int .i64 n, .slice p F.len c] 25)
  rw [hu5] at hN5 bN5
  obtain ⟨B5, hB5⟩ : ∃ B, w4.heap.size = B := ⟨_, rfl⟩
  have lA5 : A < B5 := by rw [← hB5]; exact hA4.lt
  rw [hB5] at hN5
  have hAu5 := hA4.below bN5
  obtain ⟨y1, hy1, v2, y2, hrun2, y3, hy3, g, cv, y4, hrun4, ⟨q, hqF, hrow⟩, hby⟩ := more_run (c := c) hin4 bN5 hl3
  have hAy := hAu5.below hby
  have hNy := hN5.below hby
  obtain ⟨w5, hw5⟩ : ∃ u, y4.setCell ⟨B5, 3, none⟩ (.slice (some ⟨g, 0, none⟩) (F.len + 1) cv) = u := ⟨_, rfl⟩
  have hA5 : Bx w5 A #[.int .i64 kd, .int .i64 sy, .int .i64 n, .slice p F.len c] := by rw [← hw5]; exact hAy.other (by omega) _ _
  have hO5_5 : OB w5 B5 #[.int .i64 kd, .int .i64 sy, .int .i64 n, .slice (some ⟨g, 0, none⟩) (F.len + 1) cv] := by rw [← hw5]; exact hNy.set 3 _
  have b4y := bN5.trans (hby.mono bN5.size)
  have b45 : Below w4.heap.size w4 w5 := by rw [← hw5]; exact b4y.setCell (by show _ ≤ B5; omega) _
  have b05 := b04.trans (b45.mono b04.size)
  have hB5u : B5 < u5.heap.size := hN5.lt
  have hrow5 : w5.ownsRow u5.heap.size 25 4 (.slice (some ⟨g, 0, none⟩) (F.len + 1) cv) (q ++ [(⟨1, 0, 0, none, 0, 0⟩ : Hd)]).length (hdCells (q ++ [(⟨1, 0, 0, none, 0, 0⟩ : Hd)])) := by rw [← hw5]; exact ownsRow_setCell_below hrow (by show B5 < _; omega) _
  have hGl : (F.app (.cons 1 0 0 .nil .nil)).len = F.len + 1 := by rw [Fo.app_len]; rfl
  have hSlc5 : Slc w5 (some ⟨g, 0, none⟩) (F.app (.cons 1 0 0 .nil .nil)) := slc_of_row hrow5 (RdHeads.snoc (⟨1, 0, 0, none, 0, 0⟩ : Hd) .nil rfl ⟨by simp [Fo.len], fun h => by simp [Fo.len] at h⟩ q F (hqF.below b45)) (by rw [hGl]; unfold maxLen; omega)
  have hin5 := hin4.below b45
  have hE5 := hE4.below b45
  clear hrow hrow5 hqF
  obtain ⟨q0, q1, q2, q3⟩ := four hA4
  have s3 : y1.cell? ⟨A, 3, none⟩ = some (.slice p F.len c) := by rw [← hy1]; exact (hAu5.below (xBelow_new _ _)).cell 3 rfl
  have c3 := hNy.at 3
  have f3 := hNy.free
  go_upto_region 8 with (at_builtin; first | refine xwpList_append_run rfl (.tmp 30) (.tmp 32) 23 rfl _ _ rfl rfl hrun2 ?_ | refine xwpList_append_run rfl (.tmp 33) (.tmp 35) 23 rfl _ _ rfl rfl hrun4 ?_)
  clear q0 q1 q2 q3 s3 c3 f3 hw5 hu5 hy1 hy3 hrun2 hrun4
  obtain ⟨u6, hu6⟩ : ∃ u, w5.alloc (.cells #[.int .i64 kd, .int .i64 sy, .int .i64 n, .slice p F.len c] 25) = u := ⟨_, rfl⟩
  have hN6 := ob_new w5 #[.int .i64 kd, .int .i64 sy, .int .i64 n, .slice p F.len c] 25
  have bN6 := xBelow_new w5 (.cells #[.int .i64 kd, .int .i64 sy, .int .i64 n, .slice p F.len c] 25)
  rw [hu6] at hN6 bN6
  obtain ⟨B6, hB6⟩ : ∃ B, w5.heap.size = B := ⟨_, rfl⟩
  have lA6 : A < B6 := by rw [← hB6]; exact hA5.lt
  have l5_6 : B5 < B6 := by rw [← hB6]; exact hO5_5.lt
  rw [hB6] at hN6
  have hAu6 := hA5.below bN6
  have hOu5_6 := hO5_5.below bN6
  obtain ⟨w6, hw6⟩ : ∃ u, u6.setCell ⟨B6, 2, none⟩ (.int .i64 (n + 20 + 1)) = u := ⟨_, rfl⟩
  have hA6 : Bx w6 A #[.int .i64 kd, .int .i64 sy, .int .i64 n, .slice p F.len c] := by rw [← hw6]; exact hAu6.other (by omega) _ _
  have hO6_6 : OB w6 B6 #[.int .i64 kd, .int .i64 sy, .int .i64 (n + 20 + 1), .slice p F.len c] := by rw [← hw6]; exact hN6.set 2 _
  have hO5_6 : OB w6 B5 #[.int .i64 kd, .int .i64 sy, .int .i64 n, .slice (some ⟨g, 0, none⟩) (F.len + 1) cv] := by rw [← hw6]; exact hOu5_6.other (by omega) _ _
  have b56 : Below w5.heap.size w5 w6 := by rw [← hw6]; exact bN6.setCell (by show _ ≤ B6; omega) _
  have b06 := b05.trans (b56.mono b05.size)
  have hin6 := hin5.below b56
  have hE6 := hE5.below b56
  have hSlc6 := hSlc5.below b56
  obtain ⟨q0, q1, q2, q3⟩ := four hA5
  have c0 := hN6.at 2
  have f0 := hN6.free
  have s2 : u6.cell? ⟨A, 2, none⟩ = some (.int .i64 n) := hAu6.cell 2 rfl
  go_upto_region 10 with fail
  clear q0 q1 q2 q3 c0 f0 hw6 hu6 s2
  obtain ⟨u7, hu7⟩ : ∃ u, w6.alloc (.cells #[.int .i64 kd, .int .i64 sy, .int .i64 n, .slice p F.len c] 25) = u := ⟨_, rfl⟩
  have hN7 := ob_new w6 #[.int .i64 kd, .int .i64 sy, .int .i64 n, .slice p F.len c] 25
  have bN7 := xBelow_new w6 (.cells #[.int .i64 kd, .int .i64 sy, .int .i64 n, .slice p F.len c] 25)
  rw [hu7] at hN7 bN7
  obtain ⟨B7, hB7⟩ : ∃ B, w6.heap.size = B := ⟨_, rfl⟩
  have lA7 : A < B7 := by rw [← hB7]; exact hA6.lt
  have l5_7 : B5 < B7 := by rw [← hB7]; exact hO5_6.lt
  have l6_7 : B6 < B7 := by rw [← hB7]; exact hO6_6.lt
  rw [hB7] at hN7
  have hAu7 := hA6.below bN7
  have hOu5_7 := hO5_6.below bN7
  have hOu6_7 := hO6_6.below bN7
  obtain ⟨w7, hw7⟩ : ∃ u, u7.setCell ⟨B7, 0, none⟩ (.int .i64 8) = u := ⟨_, rfl⟩
  have hA7 : Bx w7 A #[.int .i64 kd, .int .i64 sy, .int .i64 n, .slice p F.len c] := by rw [← hw7]; exact hAu7.other (by omega) _ _
  have hO7_7 : OB w7 B7 #[.int .i64 8, .int .i64 sy, .int .i64 n, .slice p F.len c] := by rw [← hw7]; exact hN7.set 0 _
  have hO5_7 : OB w7 B5 #[.int .i64 kd, .int .i64 sy, .int .i64 n, .slice (some ⟨g, 0, none⟩) (F.len + 1) cv] := by rw [← hw7]; exact hOu5_7.other (by omega) _ _
  have hO6_7 : OB w7 B6 #[.int .i64 kd, .int .i64 sy, .int .i64 (n + 20 + 1), .slice p F.len c] := by rw [← hw7]; exact hOu6_7.other (by omega) _ _
  have b67 : Below w6.heap.size w6 w7 := by rw [← hw7]; exact bN7.setCell (by show _ ≤ B7; omega) _
  have b07 := b06.trans (b67.mono b06.size)
  have hin7 := hin6.below b67
  have hE7 := hE6.below b67
  have hSlc7 := hSlc6.below b67
  obtain ⟨q0, q1, q2, q3⟩ := four hA6
  have c0 := hN7.at 0
  have f0 := hN7.free
  go_upto_region 12 with fail
  clear q0 q1 q2 q3 c0 f0 hw7 hu7
  obtain ⟨u8, hu8⟩ : ∃ u, w7.alloc (.cells #[.int .i64 kd, .int .i64 sy, .int .i64 n, .slice p F.len c] 25) = u := ⟨_, rfl⟩
  have hN8 := ob_new w7 #[.int .i64 kd, .int .i64 sy, .int .i64 n, .slice p F.len c] 25
  have bN8 := xBelow_new w7 (.cells #[.int .i64 kd, .int .i64 sy, .int .i64 n, .slice p F.len c] 25)
  rw [hu8] at hN8 bN8
  obtain ⟨B8, hB8⟩ : ∃ B, w7.heap.size = B := ⟨_, rfl⟩
  have lA8 : A < B8 := by rw [← hB8]; exact hA7.lt
  have l5_8 : B5 < B8 := by rw [← hB8]; exact hO5_7.lt
  have l6_8 : B6 < B8 := by rw [← hB8]; exact hO6_7.lt
  have l7_8 : B7 < B8 := by rw [← hB8]; exact hO7_7.lt
  rw [hB8] at hN8
  have hAu8 := hA7.below bN8
  have hOu5_8 := hO5_7.below bN8
  have hOu6_8 := hO6_7.below bN8
  have hOu7_8 := hO7_7.below bN8
  obtain ⟨w8, hw8⟩ : ∃ u, u8.setCell ⟨B8, 1, none⟩ (.int .i64 5) = u := ⟨_, rfl⟩
  have hA8 : Bx w8 A #[.int .i64 kd, .int .i64 sy, .int .i64 n, .slice p F.len c] := by rw [← hw8]; exact hAu8.other (by omega) _ _
  have hO8_8 : OB w8 B8 #[.int .i64 kd, .int .i64 5, .int .i64 n, .slice p F.len c] := by rw [← hw8]; exact hN8.set 1 _
  have hO5_8 : OB w8 B5 #[.int .i64 kd, .int .i64 sy, .int .i64 n, .slice (some ⟨g, 0, none⟩) (F.len + 1) cv] := by rw [← hw8]; exact hOu5_8.other (by omega) _ _
  have hO6_8 : OB w8 B6 #[.int .i64 kd, .int .i64 sy, .int .i64 (n + 20 + 1), .slice p F.len c] := by rw [← hw8]; exact hOu6_8.other (by omega) _ _
  have hO7_8 : OB w8 B7 #[.int .i64 8, .int .i64 sy, .int .i64 n, .slice p F.len c] := by rw [← hw8]; exact hOu7_8.other (by omega) _ _
  have b78 : Below w7.heap.size w7 w8 := by rw [← hw8]; exact bN8.setCell (by show _ ≤ B8; omega) _
  have b08 := b07.trans (b78.mono b07.size)
  have hin8 := hin7.below b78
  have hE8 := hE7.below b78
  have hSlc8 := hSlc7.below b78
  obtain ⟨q0, q1, q2, q3⟩ := four hA7
  have c0 := hN8.at 1
  have f0 := hN8.free
  go_upto_region 14 with fail
  clear q0 q1 q2 q3 c0 f0 hw8 hu8
  go_wp2
  go_loopw [8] (fun i wr => ∃ k : Nat, k ≤ F.len ∧ i = .int .i64 k ∧ Below w8.heap.size w8 wr) (fun i _ => F.len - (intOf i).toNat)
  case atStart => exact ⟨0, Nat.zero_le _, rfl, Below.refl _ _⟩
  case round =>
    obtain ⟨k, hk', rfl, hb⟩ := hrel
    have b0r := b08.trans (hb.mono b08.size)
    have hAr := hA8.below hb
    have hEr := hE8.below hb
    have hinr := hin8.below hb
    obtain ⟨q0, q1, q2, q3⟩ := four hAr
    by_cases hlt : k < F.len
    · obtain ⟨b, off, kd', sy', n', kids, p', cp, hpe, hbl, hdr, hsz, c0, c1, c2, c3, hkids⟩ := hinr.at hlt
      have hkok := ok_kid hok hdr hsz
      subst hpe
      clear hdr
      go_wp2_with fail
      refine (implExOk_any kd' sy' n' p' cp kids _ t v hEr hkids).mono ?_
      rintro e w9 ⟨rfl, hb9⟩
      rw [hkok]
      go_wp2
      exact ⟨⟨k + 1, by omega, by go_num, hb.trans (hb9.mono hb.size)⟩, by simp [intOf]; omega⟩
    · clear q0 q1 q2
      have hO5_9 := hO5_8.below hb
      have hO6_9 := hO6_8.below hb
      have hO7_9 := hO7_8.below hb
      have hO8_9 := hO8_8.below hb
      have hSlc9 := hSlc8.below hb
      obtain ⟨m, hm⟩ : ∃ m, F.len + 1 = m := ⟨_, rfl⟩
      have hI5 := fun u hE h => implExOk_any kd sy n (some ⟨g, 0, none⟩) cv (F.app (.cons 1 0 0 .nil .nil)) u t v hE h
      have hT5 := fun u hE h => exText_bad kd sy n (some ⟨g, 0, none⟩) cv (F.app (.cons 1 0 0 .nil .nil)) u t v hE h (bad_more hok _ hGl)
      rw [hGl] at hI5 hT5
      rw [bad_more hok _ hGl] at hI5
      rw [hm] at hI5 hT5 hO5_9
      have hE9 := hEr
      have hin9 := hinr
      have b09 := b0r
      have hA9 := hAr
      obtain ⟨q0, q1, q2, q3'⟩ := four' hO5_9
      go_wp2_with fail
      refine (hI5 _ hE9 hSlc9).mono ?_
      rintro e w10 ⟨rfl, hb10⟩
      clear q3'
      have b010 := b09.trans (hb10.mono b09.size)
      have hE10 := hE9.below hb10
      have hin10 := hin9.below hb10
      have hSlc10 := hSlc9.below hb10
      clear q0 q1 q2 q3
      have hO5_10 := hO5_9.below hb10
      have hO6_10 := hO6_9.below hb10
      have hO7_10 := hO7_9.below hb10
      have hO8_10 := hO8_9.below hb10
      obtain ⟨q0, q1, q2, q3⟩ := four' hO6_10
      go_wp2_with fail
      refine (implExOk_any kd sy (n + 20 + 1) p c F _ t v hE10 hin10).mono ?_
      rintro e w11 ⟨rfl, hb11⟩
      rw [bad_n hok]
      have b011 := b010.trans (hb11.mono b010.size)
      have hE11 := hE10.below hb11
      have hin11 := hin10.below hb11
      have hSlc11 := hSlc10.below hb11
      clear q0 q1 q2 q3
      have hO5_11 := hO5_10.below hb11
      have hO6_11 := hO6_10.below hb11
      have hO7_11 := hO7_10.below hb11
      have hO8_11 := hO8_10.below hb11
      obtain ⟨q0, q1, q2, q3⟩ := four' hO7_11
      go_wp2_with fail
      refine (implExOk_any 8 sy n p c F _ t v hE11 hin11).mono ?_
      rintro e w12 ⟨rfl, hb12⟩
      rw [bad_kd sy n F]
      have b012 := b011.trans (hb12.mono b011.size)
      have hE12 := hE11.below hb12
      have hin12 := hin11.below hb12
      have hSlc12 := hSlc11.below hb12
      clear q0 q1 q2 q3
      have hO5_12 := hO5_11.below hb12
      have hO6_12 := hO6_11.below hb12
      have hO7_12 := hO7_11.below hb12
      have hO8_12 := hO8_11.below hb12
      obtain ⟨q0, q1, q2, q3⟩ := four' hO8_12
      go_wp2_with fail
      refine (implExOk_any kd 5 n p c F _ t v hE12 hin12).mono ?_
      rintro e w13 ⟨rfl, hb13⟩
      rw [bad_sy kd n F]
      have b013 := b012.trans (hb13.mono b012.size)
      have hE13 := hE12.below hb13
      have hin13 := hin12.below hb13
      have hSlc13 := hSlc12.below hb13
      clear q0 q1 q2 q3
      have hO5_13 := hO5_12.below hb13
      have hO6_13 := hO6_12.below hb13
      have hO7_13 := hO7_12.below hb13
      have hO8_13 := hO8_12.below hb13
      obtain ⟨q0, q1, q2, q3⟩ := four' hO5_13
      go_wp2_with fail
      refine (hT5 _ hE13 hSlc13).mono ?_
      rintro e w14 ⟨rfl, hb14⟩
      have b014 := b013.trans (hb14.mono b013.size)
      have hE14 := hE13.below hb14
      have hin14 := hin13.below hb14
      have hSlc14 := hSlc13.below hb14
      clear q0 q1 q2 q3
      have hO5_14 := hO5_13.below hb14
      have hO6_14 := hO6_13.below hb14
      have hO7_14 := hO7_13.below hb14
      have hO8_14 := hO8_13.below hb14
      obtain ⟨q0, q1, q2, q3⟩ := four' hO7_14
      go_wp2_with fail
      refine (implExSyms_any 8 sy n p c F _ t v hE14 hin14).mono ?_
      rintro e w15 ⟨vs, rfl, hv, hb15⟩
      have hs0 : symsX 8 sy n F = [] := by simp [symsX, bad_kd sy n F]
      rw [hs0] at hv
      obtain ⟨va, vc, rfl, _⟩ := intOwn_of (l := []) hv
      have b015 := b014.trans (hb15.mono b014.size)
      go_wp2
      go_ret
      exact ⟨rfl, b015⟩

theorem globErr : Tryd.prog.globalNamed "loop.example/bellman/impl.errExNone" = some 0 := by kernel_rfl
theorem typeErr : (Tryd.prog.globals[0]?).map (·.type) = some 71 := by kernel_rfl
theorem cellsErr : Tryd.prog.cellsOf 144 = 1 := by kernel_rfl
theorem cellsStr : Tryd.prog.cellsOf 9 = 1 := by kernel_rfl
theorem starErr : "*" ++ "errors.errorString" = "*errors.errorString" := by decide
theorem rowErr (u : TypeId) (h : Tryd.prog.typeName? 3 u = some "*errors.errorString") : u = 114 :=
  typeName_ptr_named (nm := "errors.errorString") (by rw [starErr]; kernel_rfl) (by kernel_rfl) (by decide) u (by rw [starErr]; exact h)
/-- The sentinel is an interface value that holds something. -/
theorem sentinel {W : World} (h : laidMetH Tryd.prog Rows.fnExBentRow.laid W) : ∃ a, W.var? Tryd.prog "loop.example/bellman/impl.errExNone" = some #[.iface 114 (.pointer (some a))] := by
  have h1 := h.filter (fun x => x.1 == "loop.example/bellman/impl.errExNone")
  have e : Rows.fnExBentRow.laid.filter (fun x => x.1 == "loop.example/bellman/impl.errExNone") = [("loop.example/bellman/impl.errExNone", Rows.laid_loop_example_bellman_impl_errExNone)] := by kernel_rfl
  rw [e, Go.MakeChecks.laidMetH_plain _ _ _ (by kernel_rfl)] at h1
  obtain ⟨ps, ⟨g0, t0, cs0, f0, p0, q0, hg0, ht0, hv0, hd0, hq, e0⟩, hnd, hrows⟩ := h1
  obtain rfl := Option.some.inj (globErr.symm.trans hg0)
  obtain rfl := Option.some.inj (typeErr.symm.trans ht0)
  subst e0
  obtain ⟨l0⟩ := cs0
  have ok0 : ∀ u v, l0 = [.iface u v] → Value.okWide Tryd.prog W .any 0 u v := fun u v e => by
    subst e
    exact (hrows 0 0 (by simp [MemPlace.row])).2 u v (by simpa using World.var?_cell hg0 hv0 0)
  obtain ⟨a0, s0, rfl, _, _, _, _⟩ := errorString_of_trod Tryd.underlying71 rowErr Tryd.underlying114 Tryd.underlying144 rfl rfl Tryd.underlying9 cellsErr cellsStr hd0 ok0
  exact ⟨a0, hv0⟩
theorem errAt {W : World} {a : Addr} (h : W.var? Tryd.prog "loop.example/bellman/impl.errExNone" = some #[.iface 114 (.pointer (some a))]) : ErrAt W 114 (.pointer (some a)) := by
  have := World.var?_cell globErr h 0
  simpa [ErrAt] using this
theorem var_below {W W' : World} {cs : Array Value} (h : W.var? Tryd.prog "loop.example/bellman/impl.errExNone" = some cs) (hb : Below W.heap.size W W') : W'.var? Tryd.prog "loop.example/bellman/impl.errExNone" = some cs := by
  unfold World.var? at h ⊢
  simp only [globErr, Option.bind_some] at h ⊢
  have hlt : 0 < W.heap.size := by
    rcases Nat.lt_or_ge 0 W.heap.size with h' | h'
    · exact h'
    · simp [Array.getElem?_eq_none h'] at h
  rw [hb.block _ hlt]
  exact h
theorem vars_read {H : Type} (enc : TypeId × Value → H) {W : World} {a : Addr} (h0 : W.var? Tryd.prog "loop.example/bellman/impl.errExNone" = some #[.iface 114 (.pointer (some a))]) (sp : Nat → Bool) :
    DataW.TrodVars enc Tryd.prog W sp ["loop.example/bellman/impl.errExNone"] [tok enc (.iface 114 (.pointer (some a)))] [.cell 0 0] :=
  ⟨0, 71, #[.iface 114 (.pointer (some a))], 1, [], [], globErr, typeErr, h0, trod_held Tryd.underlying71 (show IsIface (.iface 114 (.pointer (some a))) from trivial) 0, rfl, rfl⟩

theorem contract (H : Type) (enc : TypeId × Value → H) (W : World) (base : Nat) (args : Array Value) (ds gs : List (DataW H)) (before : List MemPlace)
    (hval : ∀ (j : Nat) t v, Tryd.f3.params[j]? = some t → args[j]? = some v → Value.okWide Tryd.prog W .any base t v)
    (hW : DataW.Whole enc Tryd.prog Tryd.f3.params.toList Rows.fnExBentSpec.vars false W args.toList ds gs before) (hL : laidMetH Tryd.prog Rows.fnExBentRow.laid W) :
    Calls Tryd.prog 3 args W fun e W' => ∃ v, e = .returned v ∧ Rows.fnExBentSpec.post enc Tryd.prog Tryd.f3 false true false false W args v W' := by
  have hW' := hW
  obtain ⟨p, q, hA0, hV0, rfl, hfz, hnd⟩ := hW
  have hA : DataW.TrodAll enc Tryd.prog W 0 (fun _ => true) true Tryd.f3.params.toList args.toList ds p := hA0
  have hV : DataW.TrodVars enc Tryd.prog W (fun _ => true) ["loop.example/bellman/impl.errExNone"] gs q := hV0
  rw [Tryd.params3] at hA hval
  obtain ⟨v0, vs0, d0, ds0, p0, q0, hargs, rfl, rfl, h0, r0⟩ := trodAll_cons hA
  obtain ⟨rfl, rfl, rfl⟩ := trodAll_nil r0
  obtain rfl : args = #[v0] := by cases args; simp_all
  obtain ⟨ea, hva⟩ := sentinel hL
  obtain ⟨rfl, rfl⟩ := hV.unique (vars_read enc hva _)
  have k0 := h0
  have lt0 : ∀ x ∈ p0, x.block < W.heap.size := by obtain ⟨m, hm⟩ := k0; exact DataW.trod_lt m _ _ _ hm
  obtain ⟨a0, cap0, bs0, rfl, e0⟩ := open_bytes (hval 0 22 v0 rfl rfl) h0
  clear hA0 hV0
  refine (walk a0 cap0 bs0 W 114 (.pointer (some ea)) e0 (errAt hva)).mono fun e W' ⟨he, bel⟩ => ?_
  subst he
  exact ⟨_, rfl, _, _, _, [], _, [.cell 0 0], hW', trodAll_mk1 (shut_bool Tryd.underlying4 _), (trodAll_cons_mk (Below.trod laidOut (by kernel_rfl) (of_decide_eq_true (by kernel_rfl)) k0 bel lt0) trodAll_mk0), vars_read enc (var_below hva bel) _, bel.frame _, fun h => by cases h⟩

noncomputable def low : Nat := (World.holding Tryd.prog default ⟨#[], #[], []⟩).heap.size
theorem laid_met (os : Os) : laidMet Tryd.prog Rows.fnExBentRow.laid (({ World.holding Tryd.prog os ⟨#[.cells #[.string { data := #[110, 111, 116, 104, 105, 110, 103, 32, 116, 104, 97, 116, 32, 105, 115, 32, 108, 111, 111, 107, 101, 100, 32, 102, 111, 114] }] 144], #[], []⟩ with heap := ((World.holding Tryd.prog os ⟨#[.cells #[.string { data := #[110, 111, 116, 104, 105, 110, 103, 32, 116, 104, 97, 116, 32, 105, 115, 32, 108, 111, 111, 107, 101, 100, 32, 102, 111, 114] }] 144], #[], []⟩).heap.modify 0 fun
      | .cells _ t frozen => .cells #[.iface 114 (.pointer (some ⟨low, 0, none⟩))] t frozen
      | o => o) } : World).forCall (fun _ _ => 0) ⟨#[], #[.slice none 0 0], []⟩).memory :=
  laidMet_of_run' 8 (by kernel_rfl) (by kernel_rfl)
theorem reads (os : Os) {H : Type} (enc : TypeId × Value → H) : DataW.whole enc Tryd.prog (({ World.holding Tryd.prog os ⟨#[.cells #[.string { data := #[110, 111, 116, 104, 105, 110, 103, 32, 116, 104, 97, 116, 32, 105, 115, 32, 108, 111, 111, 107, 101, 100, 32, 102, 111, 114] }] 144], #[], []⟩ with heap := ((World.holding Tryd.prog os ⟨#[.cells #[.string { data := #[110, 111, 116, 104, 105, 110, 103, 32, 116, 104, 97, 116, 32, 105, 115, 32, 108, 111, 111, 107, 101, 100, 32, 102, 111, 114] }] 144], #[], []⟩).heap.modify 0 fun
      | .cells _ t frozen => .cells #[.iface 114 (.pointer (some ⟨low, 0, none⟩))] t frozen
      | o => o) } : World).forCall (fun _ _ => 0) ⟨#[], #[.slice none 0 0], []⟩).memory Tryd.f3.params.toList Rows.fnExBentSpec.vars false (#[.slice none 0 0] : Array Value).toList 8 = some ([.nil], [tok enc (.iface 114 (.pointer (some ⟨low, 0, none⟩)))], [.cell 0 0]) := by kernel_rfl

set_option maxRecDepth 100000 in
theorem lifted (os : Os) (started : os.Started) (H : Type) (enc : TypeId × Value → H) (F : Stop.Interp) :
    ReturnsInHanded {} Tryd.checked os 3 .any ((OpenSpec.ofChange Rows.fnExBentSpec).preRow enc Tryd.prog Tryd.f3 Rows.fnExBentRow.domain false Rows.fnExBentRow.laid) (((OpenSpec.ofChange Rows.fnExBentSpec).at F).post enc Tryd.prog Tryd.f3 false true false false) := by
  refine returnsInHanded_of_row (C := Tryd.checked) (s := OpenSpec.ofChange Rows.fnExBentSpec) own started (by kernel_rfl) Tryd.func3
    (witness_row_at (enc := enc) (C := Tryd.checked) false ({ World.holding Tryd.prog os ⟨#[.cells #[.string { data := #[110, 111, 116, 104, 105, 110, 103, 32, 116, 104, 97, 116, 32, 105, 115, 32, 108, 111, 111, 107, 101, 100, 32, 102, 111, 114] }] 144], #[], []⟩ with heap := ((World.holding Tryd.prog os ⟨#[.cells #[.string { data := #[110, 111, 116, 104, 105, 110, 103, 32, 116, 104, 97, 116, 32, 105, 115, 32, 108, 111, 111, 107, 101, 100, 32, 102, 111, 114] }] 144], #[], []⟩).heap.modify 0 fun
      | .cells _ t frozen => .cells #[.iface 114 (.pointer (some ⟨low, 0, none⟩))] t frozen
      | o => o) } : World) #[.slice none 0 0] rfl (by kernel_rfl) (by kernel_rfl) (by kernel_rfl)
      (OpenSpec.preRow_of_cond 8 (reads os enc) (by kernel_rfl) (fun k hk => by cases hk) (by kernel_rfl) (laid_met os))) ?_
  intro W base args ds gs before hval hW _ _ _ hL hSh _
  exact contract H enc W base args ds gs before hval hW hL

theorem said : Rows.FnExBentSaid :=
  OpenClaim.holds_of_cond 3 Tryd.f3 rfl rfl rfl rfl rfl rfl rfl ⟨rfl, rfl, rfl, rfl, rfl⟩ rfl rfl rfl rfl rfl (by kernel_rfl) Tryd.func3 (by kernel_rfl)
    (of_decide_eq_true (by kernel_rfl)) (by unfold Func.isWrapper; first | (rw [if_pos (by decide +kernel)]; kernel_rfl) | (rw [if_neg (by decide +kernel)]; exact ⟨rfl, rfl⟩))
    (fun os started H enc _ F => by rw [OpenClaim.pre_eq_preRow]; exact lifted os started H enc F)

theorem plain (f : FuncId) (fn : Func) (hf : Tryd.pinned.checked.prog.funcNamed "loop.example/bellman/laws.FnExBent" = some f) (hfn : Tryd.pinned.checked.prog.funcs[f]? = some fn) :
    false = Tryd.pinned.checked.prog.looks [] ∧ ∀ (j : Nat) t, fn.params[j]? = some t → Tryd.pinned.checked.prog.wantsStandIn t = false := by
  obtain rfl : f = 3 := Option.some.inj ((show Tryd.prog.funcNamed "loop.example/bellman/laws.FnExBent" = some 3 by kernel_rfl).symm.trans hf) |>.symm
  obtain rfl : fn = Tryd.f3 := (Option.some.inj (Tryd.func3.symm.trans hfn)).symm
  refine ⟨by kernel_rfl, fun j t ht => ?_⟩
  rw [Tryd.params3] at ht
  have hm := Array.mem_of_getElem? ht
  simp only [List.mem_toArray, List.mem_cons, List.not_mem_nil, or_false] at hm
  rcases hm with rfl
  · exact (show Tryd.prog.wantsStandIn 22 = false by kernel_rfl)

theorem card : Rows.FnExBentCardSaid :=
  Claim7.holds_tied_plain_at .later [] _ _ _ _ said (fun _ h => by cases h) (by kernel_rfl) (fun _ h => by cases h) fnExBent_row_tie rfl ⟨rfl, rfl⟩ (by kernel_rfl) rfl plain (by kernel_rfl)
end Go.Proofs.YtpokhhplgljmiaaDoor.fnExBent
namespace Go.Proofs.YtpokhhplgljmiaaDoor
theorem fnExBent_holds : Rows.FnExBentCardSaid := fnExBent.card
#print axioms fnExBent_holds
end Go.Proofs.YtpokhhplgljmiaaDoor

