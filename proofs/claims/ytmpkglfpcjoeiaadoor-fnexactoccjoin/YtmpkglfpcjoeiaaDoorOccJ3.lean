/- Two places in one: both OccJoin. -/
import Derived.Test.YtmpkglfpcjoeiaaDoorOccJ2
namespace Go.Proofs.YtmpkglfpcjoeiaaDoor
open Go.ChangeShapes Go.WideShapes Go.ChangeAt Go.RowKit
set_option linter.unusedVariables false
set_option maxRecDepth 4000

theorem l1Min_any (x y : Int) (w : World) : Calls Tryd.prog 21 #[.int .i64 x, .int .i64 y] w fun e w' => e = .returned (.int .i64 (min x y)) ∧ w' = w := by
  by_cases h : x < y
  · rw [Int.min_eq_left (by omega)]
    go_enter Tryd.func21, Tryd.ntmps21
    go_wp2
    go_ret
    exact ⟨rfl, rfl⟩
  · rw [Int.min_eq_right (by omega)]
    go_enter Tryd.func21, Tryd.ntmps21
    go_wp2
    go_ret
    exact ⟨rfl, rfl⟩
theorem l1Max_any (x y : Int) (w : World) : Calls Tryd.prog 22 #[.int .i64 x, .int .i64 y] w fun e w' => e = .returned (.int .i64 (max x y)) ∧ w' = w := by
  by_cases h : x > y
  · rw [Int.max_eq_left (by omega)]
    go_enter Tryd.func22, Tryd.ntmps22
    go_wp2
    go_ret
    exact ⟨rfl, rfl⟩
  · rw [Int.max_eq_right (by omega)]
    go_enter Tryd.func22, Tryd.ntmps22
    go_wp2
    go_ret
    exact ⟨rfl, rfl⟩

theorem occOkB_len {f t : Int} {l : List Int} (h : occOkB f t l = true) : l.length ≤ 24 := by
  simp [occOkB] at h
  have := idsFrom_length l (-1) h.2 (by omega) (by omega)
  omega
/-- Both in one; nothing, if one is not ok. -/
def joinO (x y : Occ) : Occ := if occOkB x.fr x.tl x.ids && occOkB y.fr y.tl y.ids then ⟨min x.fr y.fr, max x.tl y.tl, unionF x.ids y.ids⟩ else ⟨0, 0, []⟩
/-- What is handed back: one whose numbers lie in a row of their own, from B on. -/
def OneBack (w : World) (o : Occ) (e : Ending) (w' : World) : Prop :=
  ∃ v, e = .returned (.agg #[.int .i64 o.fr, .int .i64 o.tl, v]) ∧ w'.ownsRow w.heap.size 3 1 v o.ids.length (intCells o.ids) ∧ Below w.heap.size w w'

theorem owns_slice {w : World} {B : Nat} {e : TypeId} {z : Nat} {v : Value} {n : Nat} {xs : List Value} (h : w.ownsRow B e z v n xs) : ∃ a cap, v = .slice a n cap := by
  rcases h.2 with ⟨rfl, hn⟩ | ⟨g, cap, cur, rfl, _⟩
  · exact ⟨none, 0, by rw [hn]⟩
  · exact ⟨_, cap, rfl⟩
theorem keep_set {w : World} {b c o p : Nat} {v : Value} (h : c ≠ b) : (w.setCell ⟨b, p, none⟩ v).cell? ⟨c, o, none⟩ = w.cell? ⟨c, o, none⟩ :=
  World.cell?_of_block (w := w) (Below.heap_setCell _ _ _ _ h)
theorem owns_blocks {w w' : World} {B : Nat} {e : TypeId} {z : Nat} {v : Value} {n : Nat} {xs : List Value} (h : w.ownsRow B e z v n xs) (hk : ∀ g, B ≤ g → w'.heap[g]? = w.heap[g]?) : w'.ownsRow B e z v n xs := by
  refine ⟨h.1, ?_⟩
  rcases h.2 with hn | ⟨g, cap, cur, hv, hb, hg, rest⟩
  · exact .inl hn
  · exact .inr ⟨g, cap, cur, hv, hb, (hk g hb).trans hg, rest⟩
theorem owns_low {w : World} {B B' : Nat} {e : TypeId} {z : Nat} {v : Value} {n : Nat} {xs : List Value} (h : w.ownsRow B e z v n xs) (hB : B' ≤ B) : w.ownsRow B' e z v n xs := by
  refine ⟨h.1, ?_⟩
  rcases h.2 with hn | ⟨g, cap, cur, hv, hb, rest⟩
  · exact .inl hn
  · exact .inr ⟨g, cap, cur, hv, Nat.le_trans hB hb, rest⟩
theorem set3_other (w : World) (R x : Nat) (v0 v1 v2 : Value) (h : x ≠ R) : (((w.setCell ⟨R, 0, none⟩ v0).setCell ⟨R, 1, none⟩ v1).setCell ⟨R, 2, none⟩ v2).heap[x]? = w.heap[x]? := by
  rw [Below.heap_setCell _ _ _ _ h, Below.heap_setCell _ _ _ _ h, Below.heap_setCell _ _ _ _ h]
theorem set3_below {w w3 : World} {B R : Nat} (h : Below B w w3) (hR : B ≤ R) (v0 v1 v2 : Value) : Below B w (((w3.setCell ⟨R, 0, none⟩ v0).setCell ⟨R, 1, none⟩ v1).setCell ⟨R, 2, none⟩ v2) :=
  ((h.setCell hR _).setCell hR _).setCell hR _
theorem setEnd_ok {l : List Int} (h : idsFrom (-1) l = true) : setEnd l = .returned (.tuple #[.int .u32 (bitsOf l : Nat), .bool (decide (0 < l.length))]) := by simp [setEnd, h]
/-- The boxes of two places and of the result. -/
structure Boxes (w w2 : World) (x y : Occ) (a : Option Addr) (cap : Nat) (a' : Option Addr) (cap' : Nat) : Prop where
  bel : Below w.heap.size w w2
  A : Box3 w2 w.heap.size (.int .i64 x.fr) (.int .i64 x.tl) (.slice a x.ids.length cap)
  X : Box3 w2 (w.heap.size + 1) (.int .i64 y.fr) (.int .i64 y.tl) (.slice a' y.ids.length cap')
  R : ∃ t, w2.heap[w.heap.size + 1 + 1]? = some (.cells #[.int .i64 0, .int .i64 0, .slice none 0 0] t (0, 0))
theorem Boxes.new (w : World) (x y : Occ) (a : Option Addr) (cap : Nat) (a' : Option Addr) (cap' : Nat) (T : TypeId) :
    Boxes w (((w.alloc (.cells #[.int .i64 x.fr, .int .i64 x.tl, .slice a x.ids.length cap] T)).alloc (.cells #[.int .i64 y.fr, .int .i64 y.tl, .slice a' y.ids.length cap'] T)).alloc (.cells #[.int .i64 0, .int .i64 0, .slice none 0 0] T)) x y a cap a' cap' := by
  have b0 := oBelow_new w (.cells #[.int .i64 x.fr, .int .i64 x.tl, .slice a x.ids.length cap] T)
  have b1 := oBelow_new (w.alloc (.cells #[.int .i64 x.fr, .int .i64 x.tl, .slice a x.ids.length cap] T)) (.cells #[.int .i64 y.fr, .int .i64 y.tl, .slice a' y.ids.length cap'] T)
  have b2 := oBelow_new ((w.alloc (.cells #[.int .i64 x.fr, .int .i64 x.tl, .slice a x.ids.length cap] T)).alloc (.cells #[.int .i64 y.fr, .int .i64 y.tl, .slice a' y.ids.length cap'] T)) (.cells #[.int .i64 0, .int .i64 0, .slice none 0 0] T)
  refine ⟨(b0.trans (b1.mono b0.size)).trans (b2.mono (b0.trans (b1.mono b0.size)).size), ((box3_new w _ _ _ T).below b1).below b2, ?_, ⟨T, oAlloc3_third w _ _ _⟩⟩
  have := (box3_new (w.alloc (.cells #[.int .i64 x.fr, .int .i64 x.tl, .slice a x.ids.length cap] T)) (.int .i64 y.fr) (.int .i64 y.tl) (.slice a' y.ids.length cap') T).below b2
  simpa only [World.size_alloc] using this
theorem Boxes.below {w w2 w3 : World} {x y : Occ} {a : Option Addr} {cap : Nat} {a' : Option Addr} {cap' : Nat} (h : Boxes w w2 x y a cap a' cap') (hb : Below w2.heap.size w2 w3) : Boxes w w3 x y a cap a' cap' := by
  refine ⟨h.bel.trans (hb.mono h.bel.size), h.A.below hb, h.X.below hb, ?_⟩
  obtain ⟨t, hr⟩ := h.R
  exact ⟨t, (hb.block _ (Array.getElem?_eq_some_iff.1 hr).1).trans hr⟩
theorem Boxes.drew {w w2 : World} {x y : Occ} {a : Option Addr} {cap : Nat} {a' : Option Addr} {cap' : Nat} (h : Boxes w w2 x y a cap a' cap') : Boxes w w2.drew x y a cap a' cap' := ⟨h.bel.drew, h.A, h.X, h.R⟩
theorem Boxes.res {w w2 : World} {x y : Occ} {a : Option Addr} {cap : Nat} {a' : Option Addr} {cap' : Nat} (h : Boxes w w2 x y a cap a' cap') :
    (w2.cell? ⟨w.heap.size + 1 + 1, 0, none⟩ = some (.int .i64 0) ∧ w2.cell? ⟨w.heap.size + 1 + 1, 1, none⟩ = some (.int .i64 0) ∧ w2.cell? ⟨w.heap.size + 1 + 1, 2, none⟩ = some (.slice none 0 0)) ∧
    (∀ o, w2.frozen? ⟨w.heap.size + 1 + 1, o, none⟩ = false) ∧ w.heap.size + 1 + 1 < w2.heap.size := by
  obtain ⟨t, hr⟩ := h.R
  exact ⟨⟨oCell hr 0, oCell hr 1, oCell hr 2⟩, fun o => by simp [World.frozen?, hr], (Array.getElem?_eq_some_iff.1 hr).1⟩

set_option maxHeartbeats 1000000 in
theorem l3Join_any (x y : Occ) (a : Option Addr) (cap : Nat) (a' : Option Addr) (cap' : Nat) (w : World) (h : Ints w a x.ids) (h' : Ints w a' y.ids) (hn : x.ids.length ≤ 1000) (hn' : y.ids.length ≤ 1000) :
    Calls Tryd.prog 13 #[.agg #[.int .i64 x.fr, .int .i64 x.tl, .slice a x.ids.length cap], .agg #[.int .i64 y.fr, .int .i64 y.tl, .slice a' y.ids.length cap']] w
      (OneBack w ⟨min x.fr y.fr, max x.tl y.tl, unionF x.ids y.ids⟩) := by
  have hB := Boxes.new w x y a cap a' cap' 26
  obtain ⟨w2, hw2⟩ : ∃ w2, ((w.alloc (.cells #[.int .i64 x.fr, .int .i64 x.tl, .slice a x.ids.length cap] 26)).alloc (.cells #[.int .i64 y.fr, .int .i64 y.tl, .slice a' y.ids.length cap'] 26)).alloc (.cells #[.int .i64 0, .int .i64 0, .slice none 0 0] 26) = w2 := ⟨_, rfl⟩
  rw [hw2] at hB
  have hBd := hB.drew
  obtain ⟨p0, p1, p2⟩ := hB.A.cells
  obtain ⟨q0, q1, q2⟩ := hB.X.cells
  go_enter Tryd.func13, Tryd.ntmps13
  go_wp2_with fail
  go_region_held (fun v => (v.cell? ⟨w.heap.size, 0, none⟩ = some (.int .i64 x.fr) ∧ v.cell? ⟨w.heap.size, 1, none⟩ = some (.int .i64 x.tl) ∧ v.cell? ⟨w.heap.size, 2, none⟩ = some (.slice a x.ids.length cap)) ∧
        (v.cell? ⟨w.heap.size + 1, 0, none⟩ = some (.int .i64 y.fr) ∧ v.cell? ⟨w.heap.size + 1, 1, none⟩ = some (.int .i64 y.tl) ∧ v.cell? ⟨w.heap.size + 1, 2, none⟩ = some (.slice a' y.ids.length cap'))) (first | (go_keep; done) | (simp only [keep_set (show w.heap.size ≠ w.heap.size + 1 + 1 by omega), keep_set (show w.heap.size + 1 ≠ w.heap.size + 1 + 1 by omega)]; exact ⟨⟨by assumption, by assumption, by assumption⟩, ⟨by assumption, by assumption, by assumption⟩⟩))
    (first
      | (go_at_call 21; refine (l1Min_any _ _ _).mono ?_; rintro e w' ⟨rfl, rfl⟩)
      | (go_at_call 22; refine (l1Max_any _ _ _).mono ?_; rintro e w' ⟨rfl, rfl⟩)
      | (go_at_call 23; refine (l3Union_any _ _ _ _ x.ids y.ids _ (h.below hBd.bel) (h'.below hBd.bel) hn hn').mono ?_; rintro e w3 ⟨v, rfl, hown, hb3⟩; obtain ⟨a3, cap3, rfl⟩ := owns_slice hown; have hB3 := hBd.below hb3; obtain ⟨r0, r1, r2⟩ := hB3.A.cells; obtain ⟨s0, s1, s2⟩ := hB3.X.cells; obtain ⟨⟨z0, z1, z2⟩, fz, zl⟩ := hB3.res))
  go_wp2
  refine bodyPost_ret (v := .agg #[.int .i64 (min x.fr y.fr), .int .i64 (max x.tl y.tl), .slice a3 (unionF x.ids y.ids).length cap3]) (by simp [results, Tryd.results13, go_sem, z0, z1, z2]) rfl ⟨_, rfl, ?_, ?_⟩
  · obtain ⟨t, hr⟩ := hBd.R
    exact owns_low (owns_blocks (owns_low hown (B' := w.heap.size + 1 + 1 + 1) (Array.getElem?_eq_some_iff.1 hr).1) (fun g hg => set3_other _ _ _ _ _ _ (by omega))) (by omega)
  · exact set3_below hB3.bel (by omega) _ _ _

set_option maxHeartbeats 1000000 in
theorem specOccJoin_any (x y : Occ) (a : Option Addr) (cap : Nat) (a' : Option Addr) (cap' : Nat) (w : World) (h : Ints w a x.ids) (h' : Ints w a' y.ids) :
    Calls Tryd.prog 5 #[.agg #[.int .i64 x.fr, .int .i64 x.tl, .slice a x.ids.length cap], .agg #[.int .i64 y.fr, .int .i64 y.tl, .slice a' y.ids.length cap']] w (OneBack w (joinO x y)) := by
  have hB := Boxes.new w x y a cap a' cap' 26
  obtain ⟨w2, hw2⟩ : ∃ w2, ((w.alloc (.cells #[.int .i64 x.fr, .int .i64 x.tl, .slice a x.ids.length cap] 26)).alloc (.cells #[.int .i64 y.fr, .int .i64 y.tl, .slice a' y.ids.length cap'] 26)).alloc (.cells #[.int .i64 0, .int .i64 0, .slice none 0 0] 26) = w2 := ⟨_, rfl⟩
  rw [hw2] at hB
  obtain ⟨p0, p1, p2⟩ := hB.A.cells
  obtain ⟨q0, q1, q2⟩ := hB.X.cells
  obtain ⟨⟨z0, z1, z2⟩, fz, zl⟩ := hB.res
  cases hx : occOkB x.fr x.tl x.ids
  · have hj : joinO x y = ⟨0, 0, []⟩ := by simp [joinO, hx]
    rw [hj]
    clear hj
    go_enter Tryd.func5, Tryd.ntmps5
    go_wp2_with fail
    refine (specOccOk_any x.fr x.tl _ _ x.ids _ (h.below hB.bel)).mono ?_
    rintro e w3 ⟨rfl, hb3⟩
    rw [hx]
    have hB3 := hB.below hb3
    obtain ⟨⟨y0, y1, y2⟩, fy, yl⟩ := hB3.res
    clear p0 p1 p2 q0 q1 q2 z0 z1 z2 fz
    go_wp2
    refine bodyPost_ret (v := .agg #[.int .i64 0, .int .i64 0, .slice none 0 0]) (by simp [results, Tryd.results5, go_sem, y0, y1, y2]) rfl ⟨_, rfl, World.ownsRow_nil _ _ _ _, ?_⟩
    exact set3_below hB3.bel (by omega) _ _ _
  · cases hy : occOkB y.fr y.tl y.ids
    · have hj : joinO x y = ⟨0, 0, []⟩ := by simp [joinO, hy]
      rw [hj]
      clear hj
      go_enter Tryd.func5, Tryd.ntmps5
      go_wp2_with fail
      refine (specOccOk_any x.fr x.tl _ _ x.ids _ (h.below hB.bel)).mono ?_
      rintro e w3 ⟨rfl, hb3⟩
      rw [hx]
      have hB3 := hB.below hb3
      clear p0 p1 p2 q0 q1 q2 z0 z1 z2 fz
      obtain ⟨p0, p1, p2⟩ := hB3.A.cells
      obtain ⟨q0, q1, q2⟩ := hB3.X.cells
      go_wp2_with fail
      refine (specOccOk_any y.fr y.tl _ _ y.ids _ (h'.below hB3.bel)).mono ?_
      rintro e w4 ⟨rfl, hb4⟩
      rw [hy]
      have hB4 := hB3.below hb4
      obtain ⟨⟨y0, y1, y2⟩, fy, yl⟩ := hB4.res
      clear p0 p1 p2 q0 q1 q2
      go_wp2
      refine bodyPost_ret (v := .agg #[.int .i64 0, .int .i64 0, .slice none 0 0]) (by simp [results, Tryd.results5, go_sem, y0, y1, y2]) rfl ⟨_, rfl, World.ownsRow_nil _ _ _ _, ?_⟩
      exact set3_below hB4.bel (by omega) _ _ _
    · have hj : joinO x y = ⟨min x.fr y.fr, max x.tl y.tl, unionF x.ids y.ids⟩ := by simp [joinO, hx, hy]
      rw [hj]
      clear hj
      have hn := occOkB_len hx
      have hn' := occOkB_len hy
      go_enter Tryd.func5, Tryd.ntmps5
      go_wp2_with fail
      refine (specOccOk_any x.fr x.tl _ _ x.ids _ (h.below hB.bel)).mono ?_
      rintro e w3 ⟨rfl, hb3⟩
      rw [hx]
      have hB3 := hB.below hb3
      clear p0 p1 p2 q0 q1 q2 z0 z1 z2 fz
      obtain ⟨p0, p1, p2⟩ := hB3.A.cells
      obtain ⟨q0, q1, q2⟩ := hB3.X.cells
      go_wp2_with fail
      refine (specOccOk_any y.fr y.tl _ _ y.ids _ (h'.below hB3.bel)).mono ?_
      rintro e w4 ⟨rfl, hb4⟩
      rw [hy]
      have hB4 := hB3.below hb4
      clear p0 p1 p2 q0 q1 q2
      obtain ⟨p0, p1, p2⟩ := hB4.A.cells
      obtain ⟨q0, q1, q2⟩ := hB4.X.cells
      go_wp2_with fail
      refine (l3Join_any x y _ _ _ _ _ (h.below hB4.bel) (h'.below hB4.bel) (by omega) (by omega)).mono ?_
      rintro e w5 ⟨v, rfl, hown, hb5⟩
      have hB5 := hB4.below hb5
      obtain ⟨⟨y0, y1, y2⟩, fy, yl⟩ := hB5.res
      obtain ⟨a3, cap3, rfl⟩ := owns_slice hown
      obtain ⟨t4, hr4⟩ := hB4.R
      have hl4 := (Array.getElem?_eq_some_iff.1 hr4).1
      clear p0 p1 p2 q0 q1 q2
      go_wp2
      refine bodyPost_ret (v := .agg #[.int .i64 (min x.fr y.fr), .int .i64 (max x.tl y.tl), .slice a3 (unionF x.ids y.ids).length cap3]) (by simp [results, Tryd.results5, go_sem, y0, y1, y2]) rfl ⟨_, rfl, ?_, ?_⟩
      · exact owns_low (owns_blocks (owns_low hown (B' := w.heap.size + 1 + 1 + 1) hl4) (fun g hg => set3_other _ _ _ _ _ _ (by omega))) (by omega)
      · exact set3_below hB5.bel (by omega) _ _ _

end Go.Proofs.YtmpkglfpcjoeiaaDoor
