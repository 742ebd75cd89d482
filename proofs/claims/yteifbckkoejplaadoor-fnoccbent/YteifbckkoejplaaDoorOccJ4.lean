/- Two places in one: the program's OccJoin. -/
import Derived.Test.YteifbckkoejplaaDoorOccJ3
namespace Go.Proofs.YteifbckkoejplaaDoor
open Go.ChangeShapes Go.WideShapes Go.ChangeAt Go.RowKit
set_option linter.unusedVariables false
set_option maxRecDepth 4000

set_option maxHeartbeats 4000000 in
theorem implOccJoin_any (x y : Occ) (a : Option Addr) (cap : Nat) (a' : Option Addr) (cap' : Nat) (w : World) (h : Ints w a x.ids) (h' : Ints w a' y.ids) (hT : BTab w) :
    Calls Tryd.prog 10 #[.agg #[.int .i64 x.fr, .int .i64 x.tl, .slice a x.ids.length cap], .agg #[.int .i64 y.fr, .int .i64 y.tl, .slice a' y.ids.length cap']] w (OneBack w (joinO x y)) := by
  have hB := Boxes.new w x y a cap a' cap' 25
  obtain ⟨w2, hw2⟩ : ∃ w2, ((w.alloc (.cells #[.int .i64 x.fr, .int .i64 x.tl, .slice a x.ids.length cap] 25)).alloc (.cells #[.int .i64 y.fr, .int .i64 y.tl, .slice a' y.ids.length cap'] 25)).alloc (.cells #[.int .i64 0, .int .i64 0, .slice none 0 0] 25) = w2 := ⟨_, rfl⟩
  rw [hw2] at hB
  obtain ⟨p0, p1, p2⟩ := hB.A.cells
  obtain ⟨q0, q1, q2⟩ := hB.X.cells
  obtain ⟨⟨z0, z1, z2⟩, fz, zl⟩ := hB.res
  cases hx : occOkB x.fr x.tl x.ids
  · have hj : joinO x y = ⟨0, 0, []⟩ := by simp [joinO, hx]
    rw [hj]
    clear hj
    go_enter Tryd.func10, Tryd.ntmps10
    go_wp2_with fail
    refine (implOccOk_any x.fr x.tl _ _ x.ids _ (h.below hB.bel)).mono ?_
    rintro e w3 ⟨rfl, hb3⟩
    rw [hx]
    have hB3 := hB.below hb3
    obtain ⟨⟨y0, y1, y2⟩, fy, yl⟩ := hB3.res
    clear p0 p1 p2 q0 q1 q2 z0 z1 z2 fz
    go_wp2
    refine bodyPost_ret (v := .agg #[.int .i64 0, .int .i64 0, .slice none 0 0]) (by simp [results, Tryd.results10, go_sem, y0, y1, y2]) rfl ⟨_, rfl, World.ownsRow_nil _ _ _ _, ?_⟩
    exact set3_below hB3.bel (by omega) _ _ _
  · cases hy : occOkB y.fr y.tl y.ids
    · have hj : joinO x y = ⟨0, 0, []⟩ := by simp [joinO, hy]
      rw [hj]
      clear hj
      go_enter Tryd.func10, Tryd.ntmps10
      go_wp2_with fail
      refine (implOccOk_any x.fr x.tl _ _ x.ids _ (h.below hB.bel)).mono ?_
      rintro e w3 ⟨rfl, hb3⟩
      rw [hx]
      have hB3 := hB.below hb3
      clear p0 p1 p2 q0 q1 q2 z0 z1 z2 fz
      obtain ⟨p0, p1, p2⟩ := hB3.A.cells
      obtain ⟨q0, q1, q2⟩ := hB3.X.cells
      go_wp2_with fail
      refine (implOccOk_any y.fr y.tl _ _ y.ids _ (h'.below hB3.bel)).mono ?_
      rintro e w4 ⟨rfl, hb4⟩
      rw [hy]
      have hB4 := hB3.below hb4
      obtain ⟨⟨y0, y1, y2⟩, fy, yl⟩ := hB4.res
      clear p0 p1 p2 q0 q1 q2
      go_wp2
      refine bodyPost_ret (v := .agg #[.int .i64 0, .int .i64 0, .slice none 0 0]) (by simp [results, Tryd.results10, go_sem, y0, y1, y2]) rfl ⟨_, rfl, World.ownsRow_nil _ _ _ _, ?_⟩
      exact set3_below hB4.bel (by omega) _ _ _
    · have hj : joinO x y = ⟨min x.fr y.fr, max x.tl y.tl, unionF x.ids y.ids⟩ := by simp [joinO, hx, hy]
      rw [hj]
      clear hj
      have hn := occOkB_len hx
      have hn' := occOkB_len hy
      go_enter Tryd.func10, Tryd.ntmps10
      go_wp2_with fail
      refine (implOccOk_any x.fr x.tl _ _ x.ids _ (h.below hB.bel)).mono ?_
      rintro e w3 ⟨rfl, hb3⟩
      rw [hx]
      have hB3 := hB.below hb3
      clear p0 p1 p2 q0 q1 q2 z0 z1 z2 fz
      obtain ⟨p0, p1, p2⟩ := hB3.A.cells
      obtain ⟨q0, q1, q2⟩ := hB3.X.cells
      go_wp2_with fail
      refine (implOccOk_any y.fr y.tl _ _ y.ids _ (h'.below hB3.bel)).mono ?_
      rintro e w4 ⟨rfl, hb4⟩
      rw [hy]
      have hB4 := hB3.below hb4
      clear p0 p1 p2 q0 q1 q2
      obtain ⟨p0, p1, p2⟩ := hB4.A.cells
      obtain ⟨q0, q1, q2⟩ := hB4.X.cells
      have hix : idsFrom (-1) x.ids = true := by simp [occOkB] at hx; exact hx.2
      have hiy : idsFrom (-1) y.ids = true := by simp [occOkB] at hy; exact hy.2
      have hsx := bitsOf_small hix
      have hsy := bitsOf_small hiy
      have hex := setEnd_ok hix
      have hey := setEnd_ok hiy
      have hor := u32_or_nat (bitsOf x.ids) (bitsOf y.ids) (by omega) (by omega)
      have hbu : Hid (∀ r, IsBits (bitsOf x.ids ||| bitsOf y.ids) r → r = unionF x.ids y.ids) := fun r => bits_union (r := r) hix hiy
      have hol : bitsOf x.ids ||| bitsOf y.ids < 4294967296 := Nat.or_lt_two_pow (n := 32) (by omega) (by omega)
      generalize bitsOf x.ids ||| bitsOf y.ids = S at hor hbu hol
      generalize bitsOf x.ids = sx at hex hor hsx
      generalize bitsOf y.ids = sy at hey hor hsy
      go_wp2_with fail
      refine (idSetOf_any _ _ x.ids _ (h.below hB4.bel)).mono ?_
      rintro e w5 ⟨rfl, hb5⟩
      rw [hex]
      have hB5 := hB4.below hb5
      clear p0 p1 p2 q0 q1 q2
      obtain ⟨p0, p1, p2⟩ := hB5.A.cells
      obtain ⟨q0, q1, q2⟩ := hB5.X.cells
      go_wp2_with fail
      refine (idSetOf_any _ _ y.ids _ (h'.below hB5.bel)).mono ?_
      rintro e w6 ⟨rfl, hb6⟩
      rw [hey]
      have hB6 := hB5.below hb6
      clear p0 p1 p2 q0 q1 q2
      obtain ⟨p0, p1, p2⟩ := hB6.A.cells
      obtain ⟨q0, q1, q2⟩ := hB6.X.cells
      have hm1 : (if y.fr < x.fr then y.fr else x.fr) = min x.fr y.fr := by split <;> omega
      have hm2 : (if x.tl < y.tl then y.tl else x.tl) = max x.tl y.tl := by split <;> omega
      generalize hmf : min x.fr y.fr = mf at hm1
      generalize hmt : max x.tl y.tl = mt at hm2
      have e1 : Hid (min x.fr y.fr = mf) := hmf
      have e2 : Hid (max x.tl y.tl = mt) := hmt
      clear hmf hmt
      have hB6d := hB6.drew
      clear hix hiy hx hy hex hey
      have hTd : BTab w6.drew := hT.below hB6d.bel hT.lt
      go_wp2_with fail
      go_region_held (fun v => (v.cell? ⟨w.heap.size, 0, none⟩ = some (.int .i64 x.fr) ∧ v.cell? ⟨w.heap.size, 1, none⟩ = some (.int .i64 x.tl) ∧ v.cell? ⟨w.heap.size, 2, none⟩ = some (.slice a x.ids.length cap)) ∧
          (v.cell? ⟨w.heap.size + 1, 0, none⟩ = some (.int .i64 y.fr) ∧ v.cell? ⟨w.heap.size + 1, 1, none⟩ = some (.int .i64 y.tl) ∧ v.cell? ⟨w.heap.size + 1, 2, none⟩ = some (.slice a' y.ids.length cap'))) (first | (go_keep; done) | (simp only [keep_set (show w.heap.size ≠ w.heap.size + 1 + 1 by omega), keep_set (show w.heap.size + 1 ≠ w.heap.size + 1 + 1 by omega)]; exact ⟨⟨by assumption, by assumption, by assumption⟩, ⟨by assumption, by assumption, by assumption⟩⟩))
        (first | (go_at_call 19; refine (idList_any S _ hol hTd).mono ?_; rintro e w7 ⟨v, r, rfl, hbr, hown, hb7⟩; obtain rfl := hbu.out r hbr; clear hbr; obtain ⟨a3, cap3, rfl⟩ := owns_slice hown; have hB7 := hB6d.below hb7; obtain ⟨r0, r1, r2⟩ := hB7.A.cells; obtain ⟨s0, s1, s2⟩ := hB7.X.cells; obtain ⟨⟨y0, y1, y2⟩, fy, yl⟩ := hB7.res))
      all_goals
        go_wp2
        obtain ⟨t4, hr4⟩ := hB6d.R
        have hl4 := (Array.getElem?_eq_some_iff.1 hr4).1
        refine bodyPost_ret (v := .agg #[.int .i64 mf, .int .i64 mt, .slice a3 (unionF x.ids y.ids).length cap3]) (by simp [results, Tryd.results10, go_sem, y0, y1, y2]) rfl ⟨_, by rw [e1.out, e2.out], ?_, ?_⟩
        · exact owns_low (owns_blocks (owns_low hown (B' := w.heap.size + 1 + 1 + 1) hl4) (fun g hg => set3_other _ _ _ _ _ _ (by omega))) (by omega)
        · exact set3_below hB7.bel (by omega) _ _ _
end Go.Proofs.YteifbckkoejplaaDoor
