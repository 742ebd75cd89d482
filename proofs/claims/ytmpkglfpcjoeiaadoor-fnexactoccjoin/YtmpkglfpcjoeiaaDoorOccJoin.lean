/- At every two places the program's OccJoin answers as the specification's, field by field; the places read afterwards as before; the answer owns its memory. The library's table of places of bits is as its text lays it. -/
import Derived.Test.YtmpkglfpcjoeiaaDoorOccJ4
import Derived.Test.YtmpkglfpcjoeiaaDoorCards
import Derived.Test.YtmpkglfpcjoeiaaDoorTie
import Derived.Deep.DeepHandedRow
import Derived.LaidLaws
import Derived.MakeChecks
namespace Go.Proofs.YtmpkglfpcjoeiaaDoor
open Go.ChangeShapes Go.WideShapes Go.ChangeAt Go.RowKit
set_option linter.unusedVariables false
set_option maxRecDepth 4000

theorem below_pair (w : World) (o o' : Obj) : Below w.heap.size w ((w.alloc o).alloc o') := ((Below.refl _ _).alloc (Nat.le_refl _) _).alloc (by simp) _

theorem joinO_len (x y : Occ) : (joinO x y).ids.length ≤ 48 := by
  unfold joinO
  cases hx : occOkB x.fr x.tl x.ids
  · simp
  · cases hy : occOkB y.fr y.tl y.ids
    · simp
    · have h1 := occOkB_len hx
      have h2 := occOkB_len hy
      have h3 := unionF_length x.ids y.ids
      simp
      omega
theorem Box3.lower {w w' : World} {A B : Nat} {v0 v1 v2 : Value} (h : Box3 w A v0 v1 v2) (hA : A < B) (hb : Below B w w') : Box3 w' A v0 v1 v2 := by
  obtain ⟨t, f, h⟩ := h
  exact ⟨t, f, (hb.block A hA).trans h⟩
/-- A place in a box of its own, R, its numbers in a row of their own; both are new behind w2. -/
structure Kept (w2 w' : World) (R : Nat) (o : Occ) (aw : Option Addr) (capw : Nat) : Prop where
  box : Box3 w' R (.int .i64 o.fr) (.int .i64 o.tl) (.slice aw o.ids.length capw)
  own : IntOwn w' w2.heap.size aw o.ids
  ge : w2.heap.size ≤ R
  bel : Below w2.heap.size w2 w'
theorem own_of_row {w : World} {B : Nat} {t : TypeId} {a : Option Addr} {n cap : Nat} {l : List Int} (h : w.ownsRow B t 1 (.slice a n cap) l.length (intCells l)) : IntOwn w B a l := by
  obtain ⟨a', cap', e, ho⟩ := intOwn_of h
  cases e
  exact ho
theorem IntOwn.low {w : World} {B B' : Nat} {a : Option Addr} {l : List Int} (h : IntOwn w B a l) (hB : B' ≤ B) : IntOwn w B' a l := by
  refine ⟨h.len, fun x hx => Nat.le_trans hB (h.ge x hx), fun hl => ?_⟩
  obtain ⟨b, e, h1, h2⟩ := h.row hl
  exact ⟨b, e, Nat.le_trans hB h1, h2⟩
theorem Kept.new {w2 w5 : World} {o : Occ} {aw : Option Addr} {capw B : Nat} {t : TypeId} (T : TypeId) (own : w5.ownsRow B t 1 (.slice aw o.ids.length capw) o.ids.length (intCells o.ids)) (hB : w2.heap.size ≤ B) (k : Below w2.heap.size w2 w5) :
    Kept w2 (w5.alloc (.cells #[.int .i64 o.fr, .int .i64 o.tl, .slice aw o.ids.length capw] T)) w5.heap.size o aw capw :=
  ⟨box3_new _ _ _ _ _, ((own_of_row own).low hB).below (oBelow_new _ _), k.size, k.alloc k.size _⟩
theorem Kept.set {w2 w5 : World} {o : Occ} {aw : Option Addr} {capw B R : Nat} {t T : TypeId} {z0 z1 z2 : Value} (hR : w5.heap[R]? = some (.cells #[z0, z1, z2] T (0, 0))) (hlow : w2.heap.size ≤ R) (hRB : R < B)
    (own : w5.ownsRow B t 1 (.slice aw o.ids.length capw) o.ids.length (intCells o.ids)) (k : Below w2.heap.size w2 w5) :
    Kept w2 (((w5.setCell ⟨R, 0, none⟩ (.int .i64 o.fr)).setCell ⟨R, 1, none⟩ (.int .i64 o.tl)).setCell ⟨R, 2, none⟩ (.slice aw o.ids.length capw)) R o aw capw := by
  refine ⟨⟨T, (0, 0), ?_⟩, ?_, hlow, set3_below k hlow _ _ _⟩
  · exact heap_setCell_same _ _ _ _ _ _ (heap_setCell_same _ _ _ _ _ _ (heap_setCell_same _ _ _ _ _ _ hR))
  · have h1 := own_of_row (owns_blocks own (w' := ((w5.setCell ⟨R, 0, none⟩ (.int .i64 o.fr)).setCell ⟨R, 1, none⟩ (.int .i64 o.tl)).setCell ⟨R, 2, none⟩ (.slice aw o.ids.length capw)) (fun g hg => set3_other _ _ _ _ _ _ (by omega)))
    exact h1.low (by omega)
theorem cells3 {w : World} {R : Nat} {z0 z1 z2 : Value} {T : TypeId} (h : w.heap[R]? = some (.cells #[z0, z1, z2] T (0, 0))) :
    (w.cell? ⟨R, 0, none⟩ = some z0 ∧ w.cell? ⟨R, 1, none⟩ = some z1 ∧ w.cell? ⟨R, 2, none⟩ = some z2) ∧ (∀ o, w.frozen? ⟨R, o, none⟩ = false) ∧ R < w.heap.size :=
  ⟨⟨oCell h 0, oCell h 1, oCell h 2⟩, fun o => by simp [World.frozen?, h], (Array.getElem?_eq_some_iff.1 h).1⟩
theorem wp_to {P : Program} {c : Code} {Q : Exit → Act → World → Prop} {a : Act} {w : World} (R : Act → Act → World → Prop)
    (h1 : c.wp P (fun e a' w' => match e with | .normal => R a a' w' | _ => False) a w) (h2 : ∀ a' w', R a a' w' → Q .normal a' w') : c.wp P Q a w := by
  refine wp_mono h1 ?_
  rintro (_ | _ | _ | _ | _ | _) a' w1 hq
  all_goals first | exact h2 _ _ hq | exact hq.elim
def setSlots (a : Act) (l : List (Nat × Value)) : Act := { a with tmps := l.foldl (fun t p => t.setIfInBounds p.1 p.2) a.tmps }

set_option maxHeartbeats 400000 in
theorem markOcc_any (B : Nat) (f t : Int) (a : Option Addr) (cap : Nat) (l : List Int) (k : Int) (w : World) (h : IntOwn w B a l) (hn : l.length ≤ 1048576) (hk0 : 0 ≤ k) (hk1 : k ≤ 100000000) :
    Calls Tryd.prog 9 #[.agg #[.int .i64 f, .int .i64 t, .slice a l.length cap], .int .i64 k] w
      fun e w' => e = .returned (.int .i64 (k + l.length)) ∧ IntOwn w' B a (iMarks k l.length) ∧ w.grownBy w' (a.map (·.block)) := by
  have hb0 := oBelow_new w (.cells #[.int .i64 f, .int .i64 t, .slice a l.length cap] 26)
  go_enter Tryd.func9, Tryd.ntmps9
  go_wp2_with fail
  refine (markIntS_any B a cap l k _ (h.below hb0) hn hk0 (by omega)).mono ?_
  rintro e w1 ⟨rfl, hM, hg⟩
  go_wp2
  go_ret
  refine ⟨rfl, hM, ?_⟩
  exact grownBy_trans (World.grownBy_alloc w _ _) hg

set_option maxHeartbeats 400000 in
theorem heldOcc_any (f t : Int) (a : Option Addr) (cap n : Nat) (k : Int) (w : World) (h : Ints w a (iMarks k n)) (hn : n ≤ 1048576) (hk0 : 0 ≤ k) (hk1 : k ≤ 100000000) :
    Calls Tryd.prog 10 #[.agg #[.int .i64 f, .int .i64 t, .slice a n cap], .int .i64 k] w fun e w' => e = .returned (.int .i64 (k + n)) ∧ Below w.heap.size w w' := by
  have hb0 := oBelow_new w (.cells #[.int .i64 f, .int .i64 t, .slice a n cap] 26)
  have hge : ¬ (k + (n : Int) < 0) := by omega
  go_enter Tryd.func10, Tryd.ntmps10
  go_wp2_with fail
  refine (heldIntS_any a cap n k _ (h.below hb0) hn hk0 (by omega)).mono ?_
  rintro e w1 ⟨rfl, rfl⟩
  go_wp2
  go_ret
  exact ⟨rfl, hb0⟩
end Go.Proofs.YtmpkglfpcjoeiaaDoor
namespace Go.Proofs.YtmpkglfpcjoeiaaDoor.fnExactOccJoin
open Go.ChangeShapes Go.WideShapes Go.ChangeAt Go.RowKit
set_option linter.unusedVariables false
set_option maxRecDepth 4000

set_option maxHeartbeats 8000000 in
theorem walk (a : Option Addr) (cap : Nat) (x : Occ) (a' : Option Addr) (cap' : Nat) (y : Occ) (w : World) (h : Ints w a x.ids) (hf : x.Wf) (h' : Ints w a' y.ids) (hf' : y.Wf) (hT : BTab w) :
    Calls Tryd.prog 3 #[.agg #[.int .i64 x.fr, .int .i64 x.tl, .slice a x.ids.length cap], .agg #[.int .i64 y.fr, .int .i64 y.tl, .slice a' y.ids.length cap']] w fun e w' => e = .returned (.bool true) ∧ Below w.heap.size w w' := by
  have hlen := h.len
  have hlen' := h'.len
  obtain ⟨w0, hw0⟩ : ∃ w0, (w.alloc (.cells #[.int .i64 x.fr, .int .i64 x.tl, .slice a x.ids.length cap] 24)).alloc (.cells #[.int .i64 y.fr, .int .i64 y.tl, .slice a' y.ids.length cap'] 24) = w0 := ⟨_, rfl⟩
  have hA0 := (box3_new w (.int .i64 x.fr) (.int .i64 x.tl) (.slice a x.ids.length cap) 24).below (oBelow_new _ (.cells #[.int .i64 y.fr, .int .i64 y.tl, .slice a' y.ids.length cap'] 24))
  have hB0 := box3_new (w.alloc (.cells #[.int .i64 x.fr, .int .i64 x.tl, .slice a x.ids.length cap] 24)) (.int .i64 y.fr) (.int .i64 y.tl) (.slice a' y.ids.length cap') 24
  simp only [World.size_alloc] at hB0
  have b00 := below_pair w (.cells #[.int .i64 x.fr, .int .i64 x.tl, .slice a x.ids.length cap] 24) (.cells #[.int .i64 y.fr, .int .i64 y.tl, .slice a' y.ids.length cap'] 24)
  rw [hw0] at hA0 hB0 b00
  by_cases hbig : x.ids.length ≤ 1048576
  · have hz : szDown 1048576 x.ids.length = 1048576 - x.ids.length := if_neg (by omega)
    have hge : ¬ (1048576 - (x.ids.length : Int) < 0) := by omega
    by_cases hbig' : x.ids.length + y.ids.length ≤ 1048576
    · have hz' : szDown (1048576 - x.ids.length) y.ids.length = 1048576 - (x.ids.length : Int) - y.ids.length := if_neg (by omega)
      have hge' : ¬ (1048576 - (x.ids.length : Int) - y.ids.length < 0) := by omega
      obtain ⟨p0, p1, p2⟩ := hA0.cells
      go_enter Tryd.func3, Tryd.ntmps3
      go_wp2_with fail
      refine (szOcc_any x.fr x.tl a x.ids.length cap _ _ hlen (by omega) (by omega)).mono ?_
      rintro e w1 ⟨rfl, hb1⟩
      rw [hz]
      clear p0 p1 p2 hw0
      have b01 := b00.trans (hb1.mono b00.size)
      have hA1 := hA0.below hb1
      have hB1 := hB0.below hb1
      obtain ⟨q0, q1, q2⟩ := hB1.cells
      go_wp2_with fail
      refine (szOcc_any y.fr y.tl a' y.ids.length cap' _ _ hlen' (by omega) (by omega)).mono ?_
      rintro e w2 ⟨rfl, hb2⟩
      rw [hz']
      clear q0 q1 q2
      have b02 := b01.trans (hb2.mono b01.size)
      have hA2 := hA1.below hb2
      have hB2 := hB1.below hb2
      obtain ⟨p0, p1, p2⟩ := hA2.cells
      obtain ⟨q0, q1, q2⟩ := hB2.cells
      have hA2d : Box3 w2.drew w.heap.size (.int .i64 x.fr) (.int .i64 x.tl) (.slice a x.ids.length cap) := hA2
      have hB2d : Box3 w2.drew (w.heap.size + 1) (.int .i64 y.fr) (.int .i64 y.tl) (.slice a' y.ids.length cap') := hB2
      have b02d := b02.drew
      have hAl := hA2.lt
      have hBl := hB2.lt
      have m2 : w.heap.size + 1 < w2.drew.heap.size := hBl
      go_wp2_with fail
      refine wp_to (fun a0 a1 w' => ∃ R aw capw c3 c4, a1 = setSlots a0 [(24, .agg #[.int .i64 x.fr, .int .i64 x.tl, .slice a x.ids.length cap]), (25, .agg #[.int .i64 x.fr, .int .i64 x.tl, .slice (some ⟨c3, 0, none⟩) x.ids.length x.ids.length]), (26, .agg #[.int .i64 y.fr, .int .i64 y.tl, .slice a' y.ids.length cap']), (27, .agg #[.int .i64 y.fr, .int .i64 y.tl, .slice (some ⟨c4, 0, none⟩) y.ids.length y.ids.length]), (28, .agg #[.int .i64 (joinO x y).fr, .int .i64 (joinO x y).tl, .slice aw (joinO x y).ids.length capw]), (6, .pointer (some ⟨R, 0, none⟩))] ∧ Kept w2 w' R (joinO x y) aw capw) ?_ ?_
      · go_region_held (fun v => (v.cell? ⟨w.heap.size, 0, none⟩ = some (.int .i64 x.fr) ∧ v.cell? ⟨w.heap.size, 1, none⟩ = some (.int .i64 x.tl) ∧ v.cell? ⟨w.heap.size, 2, none⟩ = some (.slice a x.ids.length cap)) ∧
          (v.cell? ⟨w.heap.size + 1, 0, none⟩ = some (.int .i64 y.fr) ∧ v.cell? ⟨w.heap.size + 1, 1, none⟩ = some (.int .i64 y.tl) ∧ v.cell? ⟨w.heap.size + 1, 2, none⟩ = some (.slice a' y.ids.length cap'))) (first | (go_keep; done) | (simp (disch := omega) only [keep_set]; exact ⟨⟨by assumption, by assumption, by assumption⟩, ⟨by assumption, by assumption, by assumption⟩⟩))
        (first
          | (go_at_call 6; have kk := k3; clear kk; refine (toOcc_any y.fr y.tl a' cap' y.ids _ (h'.below (by first | exact b03 | exact b03.alloc b03.size _)) (by omega)).mono ?_; rintro e w4 ⟨c4, rfl, hr4, hg4, hl4, hb4⟩;
              have k4 : Below w3.heap.size w3 w4 := (by first | exact hb4 | exact (oBelow_new _ _).trans (hb4.mono (by simp)));
              obtain ⟨r0, r1, r2⟩ := ((hA2d.below k3).below k4).cells; obtain ⟨s0, s1, s2⟩ := ((hB2d.below k3).below k4).cells; have b04 := b03.trans (k4.mono b03.size); have m4 : w.heap.size + 1 < w4.heap.size := Nat.lt_of_lt_of_le m3 k4.size;
              have i3 := (hr3.ints hlen).below k4;
              first | (have R4 : w4.heap[w2.heap.size]? = some (.cells #[.int .i64 0, .int .i64 0, .slice none 0 0] 26 (0, 0)) := (k4.block _ (Array.getElem?_eq_some_iff.1 R3).1).trans R3) | (have R4 : w4.heap[w3.heap.size]? = some (.cells #[.int .i64 0, .int .i64 0, .slice none 0 0] 26 (0, 0)) := (hb4.block w3.heap.size (by simp)).trans (heap_alloc_new w3 _)) | skip)
          | (go_at_call 6; refine (toOcc_any x.fr x.tl a cap x.ids _ (h.below (by first | exact b02d | exact b02d.alloc b02d.size _)) hbig).mono ?_; rintro e w3 ⟨c3, rfl, hr3, hg3, hl3, hb3⟩;
              have k3 : Below w2.drew.heap.size w2.drew w3 := (by first | exact hb3 | exact (oBelow_new _ _).trans (hb3.mono (by simp)));
              obtain ⟨r0, r1, r2⟩ := (hA2d.below k3).cells; obtain ⟨s0, s1, s2⟩ := (hB2d.below k3).cells; have b03 := b02d.trans (k3.mono b02d.size); have m3 : w.heap.size + 1 < w3.heap.size := Nat.lt_of_lt_of_le hBl k3.size;
              try (have R3 : w3.heap[w2.heap.size]? = some (.cells #[.int .i64 0, .int .i64 0, .slice none 0 0] 26 (0, 0)) := (hb3.block w2.drew.heap.size (by simp)).trans (heap_alloc_new w2.drew _)))
          | (go_at_call 5; refine (specOccJoin_any x y _ _ _ _ _ (by first | exact i3 | exact i3.below (oBelow_new _ _)) (by first | exact hr4.ints hlen' | exact (hr4.ints hlen').below (oBelow_new _ _))).mono ?_; rintro e w5 ⟨v, rfl, hown, hb5⟩;
              have k5 : Below w4.heap.size w4 w5 := (by first | exact hb5 | exact (oBelow_new _ _).trans (hb5.mono (by simp)));
              obtain ⟨r0, r1, r2⟩ := (((hA2d.below k3).below k4).below k5).cells; obtain ⟨s0, s1, s2⟩ := (((hB2d.below k3).below k4).below k5).cells; obtain ⟨a5, cap5, rfl⟩ := owns_slice hown;
              first | (have R5 := (k5.block _ (Array.getElem?_eq_some_iff.1 R4).1).trans R4; obtain ⟨⟨z0, z1, z2⟩, fz, zl⟩ := cells3 R5) | (have R5 := (hb5.block w4.heap.size (by simp)).trans (heap_alloc_new w4 _); obtain ⟨⟨z0, z1, z2⟩, fz, zl⟩ := cells3 R5) | skip))
        all_goals
          have s3 : w2.heap.size ≤ w3.heap.size := k3.size
          have s4 := k4.size
          have s5 := k5.size
          have kk : Below w2.heap.size w2 w5 := ((Below.refl w2.heap.size w2).drew.trans k3).trans ((k4.trans (k5.mono s4)).mono s3)
          refine ⟨_, a5, cap5, c3, c4, ?_, (by first
            | exact Kept.set R5 (by omega) (by first | exact (Array.getElem?_eq_some_iff.1 R4).1 | (simp only [World.size_alloc]; omega)) hown kk
            | exact Kept.new _ hown (by omega) kk)⟩
          simp only [setSlots, List.foldl_cons, List.foldl_nil, List.setIfInBounds_toArray, List.set_cons_succ, List.set_cons_zero]
      · rintro a1 w6 ⟨R, aw, capw, c3, c4, rfl, hK6⟩
        simp only [setSlots, List.foldl_cons, List.foldl_nil, List.setIfInBounds_toArray, List.set_cons_succ, List.set_cons_zero]
        have b06 := b02.trans (hK6.bel.mono b02.size)
        have hA6 := hA2.below hK6.bel
        have hB6 := hB2.below hK6.bel
        clear p0 p1 p2 q0 q1 q2
        obtain ⟨p0, p1, p2⟩ := hA6.cells
        go_wp2_with fail
        refine (toOcc_any x.fr x.tl a cap x.ids _ (h.below b06) hbig).mono ?_
        rintro e w7 ⟨c7, rfl, hr7, hg7, hl7, hb7⟩
        have b07 := b06.trans (hb7.mono b06.size)
        clear p0 p1 p2
        obtain ⟨w8, hw8⟩ : ∃ w8, w7.alloc (.cells #[.int .i64 x.fr, .int .i64 x.tl, .slice (some ⟨c7, 0, none⟩) x.ids.length x.ids.length] 26) = w8 := ⟨_, rfl⟩
        have hX8 := box3_new w7 (.int .i64 x.fr) (.int .i64 x.tl) (.slice (some ⟨c7, 0, none⟩) x.ids.length x.ids.length) 26
        have hb8 := oBelow_new w7 (.cells #[.int .i64 x.fr, .int .i64 x.tl, .slice (some ⟨c7, 0, none⟩) x.ids.length x.ids.length] 26)
        rw [hw8] at hX8 hb8
        have b68 := hb7.trans (hb8.mono hb7.size)
        have b08 := b07.trans (hb8.mono b07.size)
        have hB8 := hB6.below b68
        obtain ⟨q0, q1, q2⟩ := hB8.cells
        go_wp2_with fail
        refine (toOcc_any y.fr y.tl a' cap' y.ids _ (h'.below b08) (by omega)).mono ?_
        rintro e w9 ⟨c9, rfl, hr9, hg9, hl9, hb9⟩
        have b09 := b08.trans (hb9.mono b08.size)
        clear q0 q1 q2 hw8
        obtain ⟨w10, hw10⟩ : ∃ w10, w9.alloc (.cells #[.int .i64 y.fr, .int .i64 y.tl, .slice (some ⟨c9, 0, none⟩) y.ids.length y.ids.length] 26) = w10 := ⟨_, rfl⟩
        have hY10 := box3_new w9 (.int .i64 y.fr) (.int .i64 y.tl) (.slice (some ⟨c9, 0, none⟩) y.ids.length y.ids.length) 26
        have hb10 := oBelow_new w9 (.cells #[.int .i64 y.fr, .int .i64 y.tl, .slice (some ⟨c9, 0, none⟩) y.ids.length y.ids.length] 26)
        rw [hw10] at hY10 hb10
        have b810 := hb9.trans (hb10.mono hb9.size)
        have b710 := hb8.trans (b810.mono hb8.size)
        have b610 := hb7.trans (b710.mono hb7.size)
        have b010 := b09.trans (hb10.mono b09.size)
        have hX10 := hX8.below b810
        obtain ⟨p0, p1, p2⟩ := hX10.cells
        obtain ⟨q0, q1, q2⟩ := hY10.cells
        have i7 := (hr7.ints hlen).below b710
        have i9 := (hr9.ints hlen').below hb10
        go_wp2_with fail
        refine (implOccJoin_any x y _ _ _ _ w10 i7 i9 (hT.below b010 hT.lt)).mono ?_
        rintro e w11 ⟨v, rfl, ho11, hb11⟩
        obtain ⟨ag, capg, rfl⟩ := owns_slice ho11
        have og11 := own_of_row ho11
        have agl : ∀ x, ag = some x → x.block < w11.heap.size := fun x hx => by subst hx; exact (ho11.lt _ rfl).2
        have hJn := joinO_len x y
        obtain ⟨J, hJ⟩ : ∃ J, joinO x y = J := ⟨_, rfl⟩
        rw [hJ] at hK6 og11 hJn ⊢
        have b011 := b010.trans (hb11.mono b010.size)
        clear p0 p1 p2 q0 q1 q2 hw10 ho11
        obtain ⟨w12, hw12⟩ : ∃ w12, w11.alloc (.cells #[.int .i64 J.fr, .int .i64 J.tl, .slice ag J.ids.length capg] 26) = w12 := ⟨_, rfl⟩
        have hG12 := box3_new w11 (.int .i64 J.fr) (.int .i64 J.tl) (.slice ag J.ids.length capg) 26
        have hb12 := oBelow_new w11 (.cells #[.int .i64 J.fr, .int .i64 J.tl, .slice ag J.ids.length capg] 26)
        rw [hw12] at hG12 hb12
        have b1012 := hb11.trans (hb12.mono hb11.size)
        have b612 := b610.trans (b1012.mono b610.size)
        have b012 := b011.trans (hb12.mono b011.size)
        have hW12 := hK6.box.below b612
        have ow12 := hK6.own.below b612
        have og12 := og11.below hb12
        have hJself := occEqB_self J.fr J.tl J.ids
        have hxself := occEqB_self x.fr x.tl x.ids
        have hyself := occEqB_self y.fr y.tl y.ids
        obtain ⟨p0, p1, p2⟩ := hG12.cells
        obtain ⟨q0, q1, q2⟩ := hW12.cells
        go_wp2_with fail
        refine (eqOcc_any J.fr J.tl _ _ J.ids J.fr J.tl _ _ J.ids _ og12.ints ow12.ints).mono ?_
        rintro e w13 ⟨rfl, hb13⟩
        have b013 := b012.trans (hb13.mono b012.size)
        have b613 := b612.trans (hb13.mono b612.size)
        have b1013 := b1012.trans (hb13.mono b1012.size)
        have b813 := b810.trans (b1013.mono b810.size)
        have b713 := b710.trans (b1013.mono b710.size)
        have b913 := hb10.trans (b1013.mono hb10.size)
        clear p0 p1 p2 q0 q1 q2 hw12
        have hA13 := hA6.below b613
        have hB13 := hB6.below b613
        have hX13 := hX8.below b813
        have hY13 := hY10.below b1013
        have hG13 := hG12.below hb13
        have hW13 := hW12.below hb13
        have ow13 := ow12.below hb13
        have og13 := og12.below hb13
        have hr13 := (hr7.ints hlen).below b713
        have hs13 := (hr9.ints hlen').below b913
        have hA13d : Box3 w13.drew w.heap.size (.int .i64 x.fr) (.int .i64 x.tl) (.slice a x.ids.length cap) := hA13
        have hX13d : Box3 w13.drew w7.heap.size (.int .i64 x.fr) (.int .i64 x.tl) (.slice (some ⟨c7, 0, none⟩) x.ids.length x.ids.length) := hX13
        have b013d := b013.drew
        have b713d := b713.drew
        obtain ⟨p0, p1, p2⟩ := hA13.cells
        obtain ⟨q0, q1, q2⟩ := hX13.cells
        go_wp2_with fail
        go_region_held (fun v => (v.cell? ⟨w.heap.size, 0, none⟩ = some (.int .i64 x.fr) ∧ v.cell? ⟨w.heap.size, 1, none⟩ = some (.int .i64 x.tl) ∧ v.cell? ⟨w.heap.size, 2, none⟩ = some (.slice a x.ids.length cap)) ∧
            (v.cell? ⟨w7.heap.size, 0, none⟩ = some (.int .i64 x.fr) ∧ v.cell? ⟨w7.heap.size, 1, none⟩ = some (.int .i64 x.tl) ∧ v.cell? ⟨w7.heap.size, 2, none⟩ = some (.slice (some ⟨c7, 0, none⟩) x.ids.length x.ids.length))) (go_keep)
          (first
          | (go_at_call 6; refine (toOcc_any x.fr x.tl a cap x.ids _ (h.below b013d) hbig).mono ?_; rintro e w14 ⟨c14, rfl, hr14, hg14, hl14, hb14⟩; obtain ⟨r0, r1, r2⟩ := (hX13d.below hb14).cells; obtain ⟨s0, s1, s2⟩ := (hA13d.below hb14).cells)
          | (go_at_call 8; refine (eqOcc_any x.fr x.tl _ _ x.ids x.fr x.tl _ _ x.ids _ ((hr7.ints hlen).below (b713d.trans (hb14.mono b713d.size))) (hr14.ints hlen)).mono ?_; rintro e w15 ⟨rfl, hb15⟩; obtain ⟨t0, t1, t2⟩ := ((hX13d.below hb14).below hb15).cells; obtain ⟨u0, u1, u2⟩ := ((hA13d.below hb14).below hb15).cells))
        have b1315 : Below w13.heap.size w13 w15 := (Below.refl w13.heap.size w13).drew.trans (hb14.trans (hb15.mono hb14.size))
        clear p0 p1 p2 q0 q1 q2 r0 r1 r2 s0 s1 s2 t0 t1 t2 u0 u1 u2 hA13d hX13d b013d b713d
        have b015 := b013.trans (b1315.mono b013.size)
        have b915 := b913.trans (b1315.mono b913.size)
        have hB15 := hB13.below b1315
        have hY15 := hY13.below b1315
        have hB15d : Box3 w15.drew (w.heap.size + 1) (.int .i64 y.fr) (.int .i64 y.tl) (.slice a' y.ids.length cap') := hB15
        have hY15d : Box3 w15.drew w9.heap.size (.int .i64 y.fr) (.int .i64 y.tl) (.slice (some ⟨c9, 0, none⟩) y.ids.length y.ids.length) := hY15
        have b015d := b015.drew
        have b915d := b915.drew
        have hbig2 : y.ids.length ≤ 1048576 := by omega
        obtain ⟨p0, p1, p2⟩ := hB15.cells
        obtain ⟨q0, q1, q2⟩ := hY15.cells
        go_wp2_with fail
        go_region_held (fun v => (v.cell? ⟨w.heap.size + 1, 0, none⟩ = some (.int .i64 y.fr) ∧ v.cell? ⟨w.heap.size + 1, 1, none⟩ = some (.int .i64 y.tl) ∧ v.cell? ⟨w.heap.size + 1, 2, none⟩ = some (.slice a' y.ids.length cap')) ∧
            (v.cell? ⟨w9.heap.size, 0, none⟩ = some (.int .i64 y.fr) ∧ v.cell? ⟨w9.heap.size, 1, none⟩ = some (.int .i64 y.tl) ∧ v.cell? ⟨w9.heap.size, 2, none⟩ = some (.slice (some ⟨c9, 0, none⟩) y.ids.length y.ids.length))) (go_keep)
          (first
          | (go_at_call 6; refine (toOcc_any y.fr y.tl a' cap' y.ids _ (h'.below b015d) hbig2).mono ?_; rintro e w16 ⟨c16, rfl, hr16, hg16, hl16, hb16⟩; obtain ⟨r0, r1, r2⟩ := (hY15d.below hb16).cells; obtain ⟨s0, s1, s2⟩ := (hB15d.below hb16).cells)
          | (go_at_call 8; refine (eqOcc_any y.fr y.tl _ _ y.ids y.fr y.tl _ _ y.ids _ ((hr9.ints hlen').below (b915d.trans (hb16.mono b915d.size))) (hr16.ints hlen')).mono ?_; rintro e w17 ⟨rfl, hb17⟩; obtain ⟨t0, t1, t2⟩ := ((hY15d.below hb16).below hb17).cells; obtain ⟨u0, u1, u2⟩ := ((hB15d.below hb16).below hb17).cells))
        have b1517 : Below w15.heap.size w15 w17 := (Below.refl w15.heap.size w15).drew.trans (hb16.trans (hb17.mono hb16.size))
        clear p0 p1 p2 q0 q1 q2 r0 r1 r2 s0 s1 s2 t0 t1 t2 u0 u1 u2 hB15d hY15d b015d b915d
        have b1317 := b1315.trans (b1517.mono b1315.size)
        have b017 := b015.trans (b1517.mono b015.size)
        have b717 := b713.trans (b1317.mono b713.size)
        have b917 := b913.trans (b1317.mono b913.size)
        have hX17 := hX13.below b1317
        have ox17 : IntOwn w17 c7 (some ⟨c7, 0, none⟩) x.ids := (IntOwn.of_row hr7 (Nat.le_refl _) hlen).below b717
        obtain ⟨p0, p1, p2⟩ := hX17.cells
        go_wp2_with fail
        refine (markOcc_any c7 x.fr x.tl _ _ x.ids 1 _ ox17 hbig (by omega) (by omega)).mono ?_
        rintro e w18 ⟨rfl, ox18, hg18⟩
        clear p0 p1 p2
        have s6 := hb7.size
        have s7 := hb8.size
        have s8 := hb9.size
        have s9 := hb10.size
        have s10 := hb11.size
        have s11 := hb12.size
        have s617 : w6.heap.size ≤ w17.heap.size := (b613.trans (b1317.mono b613.size)).size
        have s1017 : w10.heap.size ≤ w17.heap.size := (b1013.trans (b1317.mono b1013.size)).size
        have hWl := hK6.box.lt
        have hAl6 := hA6.lt
        have hBl6 := hB6.lt
        have e18 : w17.grownBy w18 (some c7) := hg18
        have b1718 : Below w6.heap.size w17 w18 := iMark_below ox17 hg18 hg7 s617
        have b018 := b017.trans (b1718.mono b06.size)
        have hA18 := (hA13.below b1317).lower hAl6 b1718
        have hB18 := (hB13.below b1317).lower hBl6 b1718
        have hW18 := (hW13.below b1317).lower hWl b1718
        have ow18 : Ints w18 aw J.ids := (ow13.below b1317).ints.lower hK6.own.ints.lt b1718
        have hY18 := (hY13.below b1317).only e18 (by simp; omega)
        have hG18 := (hG13.below b1317).only e18 (by simp; omega)
        have og18 := (og13.below b1317).only e18 (fun z hz e => by have := og11.ge z hz; simp at e; omega)
        have oy18 : IntOwn w18 c9 (some ⟨c9, 0, none⟩) y.ids := ((IntOwn.of_row hr9 (Nat.le_refl _) hlen').below b917).only e18 (fun z hz e => by cases hz; simp at e; omega)
        have s18 := b1718.size
        have s1718 : w17.heap.size ≤ w18.heap.size := e18.size
        obtain ⟨p0, p1, p2⟩ := hY18.cells
        go_wp2_with fail
        refine (markOcc_any c9 y.fr y.tl _ _ y.ids (1 + x.ids.length) _ oy18 hbig2 (by omega) (by omega)).mono ?_
        rintro e w19 ⟨rfl, oy19, hg19⟩
        clear p0 p1 p2
        have e19 : w18.grownBy w19 (some c9) := hg19
        have b1819 : Below w6.heap.size w18 w19 := iMark_below oy18 hg19 (by omega) (by omega)
        have b019 := b018.trans (b1819.mono b06.size)
        have hA19 := hA18.lower hAl6 b1819
        have hB19 := hB18.lower hBl6 b1819
        have hW19 := hW18.lower hWl b1819
        have ow19 : Ints w19 aw J.ids := ow18.lower hK6.own.ints.lt b1819
        have hG19 := hG18.only e19 (by simp; omega)
        have og19 := og18.only e19 (fun z hz e => by have := og11.ge z hz; simp at e; omega)
        have s1819 : w18.heap.size ≤ w19.heap.size := e19.size
        have hkn : ¬ ((1 : Int) + (x.ids.length : Int) + (y.ids.length : Int) < 0) := by omega
        have hkb : decide ((1 : Int) + (x.ids.length : Int) + (y.ids.length : Int) < 0) = false := by simp; omega
        obtain ⟨K, hK⟩ : ∃ K : Int, 1 + (x.ids.length : Int) + (y.ids.length : Int) = K := ⟨_, rfl⟩
        rw [hK] at hkn hkb
        rw [hK]
        obtain ⟨p0, p1, p2⟩ := hG19.cells
        obtain ⟨q0, q1, q2⟩ := hW19.cells
        clear hX17 ox17 ox18 oy18 oy19 hY18 hg18 hg19
        go_wp2_with fail
        refine (eqOcc_any J.fr J.tl _ _ J.ids J.fr J.tl _ _ J.ids _ og19.ints ow19).mono ?_
        rintro e w20 ⟨rfl, hb20⟩
        clear p0 p1 p2 q0 q1 q2
        have b020 := b019.trans (hb20.mono b019.size)
        have hA20 := hA19.below hb20
        have hB20 := hB19.below hb20
        have hW20 := hW19.below hb20
        have hG20 := hG19.below hb20
        have ow20 := ow19.below hb20
        have og20 := og19.below hb20
        have s20 := hb20.size
        obtain ⟨p0, p1, p2⟩ := hG20.cells
        go_wp2_with fail
        refine (markOcc_any _ J.fr J.tl _ _ J.ids 1 _ og20 (by omega) (by omega) (by omega)).mono ?_
        rintro e w21 ⟨rfl, og21, hg21⟩
        clear p0 p1 p2
        have b2021 : Below w10.heap.size w20 w21 := iMark_below og20 hg21 (Nat.le_refl _) (by omega)
        have b021 := b020.trans (b2021.mono b010.size)
        have hA21 := hA20.lower (by omega) b2021
        have hB21 := hB20.lower (by omega) b2021
        have hW21 := hW20.lower (by omega) b2021
        have ow21 : Ints w21 aw J.ids := ow20.lower (fun z hz hl => by have := hK6.own.ints.lt z hz hl; omega) b2021
        have hG21 := hG20.only hg21 (by
          cases hag : ag with
          | none => simp
          | some z => have := agl z hag; simp; omega)
        obtain ⟨p0, p1, p2⟩ := hG21.cells
        have hge1 : ¬ ((1 : Int) + (J.ids.length : Int) < 0) := by omega
        have hne1 : ((1 : Int) + (J.ids.length : Int) != 1 + (J.ids.length : Int)) = false := by simp
        obtain ⟨M, hM⟩ : ∃ M : Int, 1 + (J.ids.length : Int) = M := ⟨_, rfl⟩
        rw [hM] at hge1 hne1
        rw [hM]
        go_wp2_with fail
        refine (heldOcc_any J.fr J.tl _ _ J.ids.length 1 _ og21.ints (by omega) (by omega) (by omega)).mono ?_
        rintro e w22 ⟨rfl, hb22⟩
        rw [hM]
        clear p0 p1 p2
        have b022 := b021.trans (hb22.mono b021.size)
        have hA22 := hA21.below hb22
        have hB22 := hB21.below hb22
        have hW22 := hW21.below hb22
        have hG22 := hG21.below hb22
        have ow22 := ow21.below hb22
        have og22 := og21.below hb22
        have hA22d : Box3 w22.drew w.heap.size (.int .i64 x.fr) (.int .i64 x.tl) (.slice a x.ids.length cap) := hA22
        have hB22d : Box3 w22.drew (w.heap.size + 1) (.int .i64 y.fr) (.int .i64 y.tl) (.slice a' y.ids.length cap') := hB22
        have b022d := b022.drew
        have hBl22 := hB22.lt
        obtain ⟨p0, p1, p2⟩ := hA22.cells
        obtain ⟨q0, q1, q2⟩ := hB22.cells
        have m22 : w.heap.size + 1 < w22.drew.heap.size := hBl22
        clear hA0 hB0 hA1 hB1 hA2 hB2 b00 b01 b02 hb1 hb2 hA2d hB2d b02d hAl hBl m2 hb7 hb8 hb9 hb10 hb11 hb12 hb13 hr7 hr9 hr13 hs13 b610 b612 b613 b68 b710 b713 b717 b810 b813 b913 b917 b915 b1012 b1013 b1315 b1317 b1517 b07 b08 b09 b011 b012 b013 b015 b017 b018 b019 b020 b021 hA6 hB6 hX8 hB8 hY10 hX10 hG12 hW12 ow12 og12 hA13 hB13 hX13 hY13 hG13 hW13 ow13 og13 hB15 hY15 hA18 hB18 hW18 ow18 hG18 og18 hA19 hB19 hW19 ow19 hG19 og19 hA20 hB20 hW20 hG20 ow20 og20 hA21 hB21 hW21 hG21 ow21 og21 hb14 hb15 hb16 hb17 hr14 hr16 e18 e19 b1718 b1819 hb20 b2021 hb22 i7 i9 hg7 hl7 hg9 hl9 hg14 hl14 hg16 hl16 s6 s7 s8 s9 s10 s11 s617 s1017 s18 s1718 s1819 s20 hkn hkb hg21 agl og11
        go_wp2_with fail
        refine wp_to (fun a0 a1 w' => ∃ R2 ah caph d3 d4, a1 = setSlots a0 [(75, .agg #[.int .i64 x.fr, .int .i64 x.tl, .slice a x.ids.length cap]), (76, .agg #[.int .i64 x.fr, .int .i64 x.tl, .slice (some ⟨d3, 0, none⟩) x.ids.length x.ids.length]), (77, .agg #[.int .i64 y.fr, .int .i64 y.tl, .slice a' y.ids.length cap']), (78, .agg #[.int .i64 y.fr, .int .i64 y.tl, .slice (some ⟨d4, 0, none⟩) y.ids.length y.ids.length]), (79, .agg #[.int .i64 J.fr, .int .i64 J.tl, .slice ah J.ids.length caph]), (13, .pointer (some ⟨R2, 0, none⟩))] ∧ Kept w22 w' R2 J ah caph) ?_ ?_
        · go_region_held (fun v => (v.cell? ⟨w.heap.size, 0, none⟩ = some (.int .i64 x.fr) ∧ v.cell? ⟨w.heap.size, 1, none⟩ = some (.int .i64 x.tl) ∧ v.cell? ⟨w.heap.size, 2, none⟩ = some (.slice a x.ids.length cap)) ∧
            (v.cell? ⟨w.heap.size + 1, 0, none⟩ = some (.int .i64 y.fr) ∧ v.cell? ⟨w.heap.size + 1, 1, none⟩ = some (.int .i64 y.tl) ∧ v.cell? ⟨w.heap.size + 1, 2, none⟩ = some (.slice a' y.ids.length cap'))) (first | (go_keep; done) | (simp (disch := omega) only [keep_set]; exact ⟨⟨by assumption, by assumption, by assumption⟩, ⟨by assumption, by assumption, by assumption⟩⟩))
          (first
            | (go_at_call 6; have kk := k23; clear kk; refine (toOcc_any y.fr y.tl a' cap' y.ids _ (h'.below (by first | exact b023 | exact b023.alloc b023.size _)) (by omega)).mono ?_; rintro e w24 ⟨d4, rfl, hr24, hg24, hl24, hb24⟩;
                have k24 : Below w23.heap.size w23 w24 := (by first | exact hb24 | exact (oBelow_new _ _).trans (hb24.mono (by simp)));
                obtain ⟨r0, r1, r2⟩ := ((hA22d.below k23).below k24).cells; obtain ⟨s0, s1, s2⟩ := ((hB22d.below k23).below k24).cells; have b024 := b023.trans (k24.mono b023.size); have m24 : w.heap.size + 1 < w24.heap.size := Nat.lt_of_lt_of_le m23 k24.size;
                have i23 := (hr23.ints hlen).below k24;
                first | (have R24 : w24.heap[w22.heap.size]? = some (.cells #[.int .i64 0, .int .i64 0, .slice none 0 0] 26 (0, 0)) := (k24.block _ (Array.getElem?_eq_some_iff.1 R23).1).trans R23) | (have R24 : w24.heap[w23.heap.size]? = some (.cells #[.int .i64 0, .int .i64 0, .slice none 0 0] 26 (0, 0)) := (hb24.block w23.heap.size (by simp)).trans (heap_alloc_new w23 _)) | skip)
            | (go_at_call 6; refine (toOcc_any x.fr x.tl a cap x.ids _ (h.below (by first | exact b022d | exact b022d.alloc b022d.size _)) hbig).mono ?_; rintro e w23 ⟨d3, rfl, hr23, hg23, hl23, hb23⟩;
                have k23 : Below w22.drew.heap.size w22.drew w23 := (by first | exact hb23 | exact (oBelow_new _ _).trans (hb23.mono (by simp)));
                obtain ⟨r0, r1, r2⟩ := (hA22d.below k23).cells; obtain ⟨s0, s1, s2⟩ := (hB22d.below k23).cells; have b023 := b022d.trans (k23.mono b022d.size); have m23 : w.heap.size + 1 < w23.heap.size := Nat.lt_of_lt_of_le hBl22 k23.size;
                try (have R23 : w23.heap[w22.heap.size]? = some (.cells #[.int .i64 0, .int .i64 0, .slice none 0 0] 26 (0, 0)) := (hb23.block w22.drew.heap.size (by simp)).trans (heap_alloc_new w22.drew _)))
            | (go_at_call 7; refine (implOccJoin_any x y _ _ _ _ _ (by first | exact i23 | exact i23.below (oBelow_new _ _)) (by first | exact hr24.ints hlen' | exact (hr24.ints hlen').below (oBelow_new _ _)) (hT.below (by first | exact b024 | exact b024.alloc b024.size _) hT.lt)).mono ?_; rintro e w25 ⟨v, rfl, hown, hb25⟩; rw [hJ] at hown ⊢;
                have k25 : Below w24.heap.size w24 w25 := (by first | exact hb25 | exact (oBelow_new _ _).trans (hb25.mono (by simp)));
                obtain ⟨r0, r1, r2⟩ := (((hA22d.below k23).below k24).below k25).cells; obtain ⟨s0, s1, s2⟩ := (((hB22d.below k23).below k24).below k25).cells; obtain ⟨ah, caph, rfl⟩ := owns_slice hown;
                first | (have R25 := (k25.block _ (Array.getElem?_eq_some_iff.1 R24).1).trans R24; obtain ⟨⟨z0, z1, z2⟩, fz, zl⟩ := cells3 R25) | (have R25 := (hb25.block w24.heap.size (by simp)).trans (heap_alloc_new w24 _); obtain ⟨⟨z0, z1, z2⟩, fz, zl⟩ := cells3 R25) | skip))
          all_goals
            have s23 : w22.heap.size ≤ w23.heap.size := k23.size
            have s24 := k24.size
            have s25 := k25.size
            have kk : Below w22.heap.size w22 w25 := ((Below.refl w22.heap.size w22).drew.trans k23).trans ((k24.trans (k25.mono s24)).mono s23)
            refine ⟨_, ah, caph, d3, d4, ?_, (by first
              | exact Kept.set R25 (by omega) (by first | exact (Array.getElem?_eq_some_iff.1 R24).1 | (simp only [World.size_alloc]; omega)) hown kk
              | exact Kept.new _ hown (by omega) kk)⟩
            simp only [setSlots, List.foldl_cons, List.foldl_nil, List.setIfInBounds_toArray, List.set_cons_succ, List.set_cons_zero]
        · rintro a1 w26 ⟨R2, ah, caph, d3, d4, rfl, hK26⟩
          simp only [setSlots, List.foldl_cons, List.foldl_nil, List.setIfInBounds_toArray, List.set_cons_succ, List.set_cons_zero]
          have b026 := b022.trans (hK26.bel.mono b022.size)
          have hW26 := hW22.below hK26.bel
          have ow26 := ow22.below hK26.bel
          have hG26 := hG22.below hK26.bel
          have og26 := og22.below hK26.bel
          clear p0 p1 p2 q0 q1 q2
          obtain ⟨p0, p1, p2⟩ := hK26.box.cells
          obtain ⟨q0, q1, q2⟩ := hW26.cells
          go_wp2_with fail
          refine (eqOcc_any J.fr J.tl _ _ J.ids J.fr J.tl _ _ J.ids _ hK26.own.ints ow26).mono ?_
          rintro e w27 ⟨rfl, hb27⟩
          clear p0 p1 p2 q0 q1 q2
          have b027 := b026.trans (hb27.mono b026.size)
          have hG27 := hG26.below hb27
          have og27 := og26.below hb27
          obtain ⟨p0, p1, p2⟩ := hG27.cells
          go_wp2_with fail
          refine (heldOcc_any J.fr J.tl _ _ J.ids.length 1 _ og27.ints (by omega) (by omega) (by omega)).mono ?_
          rintro e w28 ⟨rfl, hb28⟩
          rw [hM]
          go_wp2
          go_ret
          exact ⟨rfl, b027.trans (hb28.mono b027.size)⟩
    · have hz' : szDown (1048576 - x.ids.length) y.ids.length = -1 := if_pos (by omega)
      obtain ⟨p0, p1, p2⟩ := hA0.cells
      go_enter Tryd.func3, Tryd.ntmps3
      go_wp2_with fail
      refine (szOcc_any x.fr x.tl a x.ids.length cap _ _ hlen (by omega) (by omega)).mono ?_
      rintro e w1 ⟨rfl, hb1⟩
      rw [hz]
      clear p0 p1 p2 hw0
      have b01 := b00.trans (hb1.mono b00.size)
      have hB1 := hB0.below hb1
      obtain ⟨q0, q1, q2⟩ := hB1.cells
      go_wp2_with fail
      refine (szOcc_any y.fr y.tl a' y.ids.length cap' _ _ hlen' (by omega) (by omega)).mono ?_
      rintro e w2 ⟨rfl, hb2⟩
      rw [hz']
      go_wp2
      go_ret
      exact ⟨rfl, b01.trans (hb2.mono b01.size)⟩
  · have hz : szDown 1048576 x.ids.length = -1 := if_pos (by omega)
    obtain ⟨p0, p1, p2⟩ := hA0.cells
    go_enter Tryd.func3, Tryd.ntmps3
    go_wp2_with fail
    refine (szOcc_any x.fr x.tl a x.ids.length cap _ _ hlen (by omega) (by omega)).mono ?_
    rintro e w1 ⟨rfl, hb1⟩
    rw [hz]
    go_wp2
    go_ret
    exact ⟨rfl, b00.trans (hb1.mono b00.size)⟩

theorem gTabType : (Tryd.prog.globals[0]?).map (·.type) = some 46 := by kernel_rfl
theorem cellsTab : Tryd.prog.cellsOf 46 = 32 := by kernel_rfl
theorem cellsWord : Tryd.prog.cellsOf 5 = 1 := by kernel_rfl
theorem table {W : World} (h : laidMetH Tryd.prog Rows.fnExactOccJoinRow.laid W) : Lib.TabIs Tryd.prog W "math/bits.deBruijn32tab" .u8 tzTab := by
  have h1 := h.filter (fun x => x.1 == "math/bits.deBruijn32tab")
  have e : Rows.fnExactOccJoinRow.laid.filter (fun x => x.1 == "math/bits.deBruijn32tab") = [("math/bits.deBruijn32tab", Lib.tabData .u8 tzTab)] := by kernel_rfl
  rw [e] at h1
  exact Lib.tabIs_of_head (rest := []) bGlob gTabType Tryd.underlying46 Tryd.underlying5 cellsWord cellsTab h1

theorem contract (H : Type) (enc : TypeId × Value → H) (W : World) (base : Nat) (args : Array Value) (ds gs : List (DataW H)) (before : List MemPlace)
    (hval : ∀ (j : Nat) t v, Tryd.f3.params[j]? = some t → args[j]? = some v → Value.okWide Tryd.prog W .any base t v)
    (hW : DataW.Whole enc Tryd.prog Tryd.f3.params.toList Rows.fnExactOccJoinSpec.vars false W args.toList ds gs before) (hL : laidMetH Tryd.prog Rows.fnExactOccJoinRow.laid W) :
    Calls Tryd.prog 3 args W fun e W' => ∃ v, e = .returned v ∧ Rows.fnExactOccJoinSpec.post enc Tryd.prog Tryd.f3 false true false false W args v W' := by
  have hW' := hW
  obtain ⟨p, q, hA0, hV, rfl, hfz, hnd⟩ := hW
  have hA : DataW.TrodAll enc Tryd.prog W 0 (fun _ => true) true Tryd.f3.params.toList args.toList ds p := hA0
  rw [Tryd.params3] at hA hval
  obtain ⟨v0, vs0, d0, ds0, p0, q0, hargs, rfl, rfl, h0, r0⟩ := trodAll_cons hA
  obtain ⟨v1, vs1, d1, ds1, p1, q1, rfl, rfl, rfl, h1, r1⟩ := trodAll_cons r0
  obtain ⟨rfl, rfl, rfl⟩ := trodAll_nil r1
  obtain rfl : args = #[v0, v1] := by cases args; simp_all
  obtain ⟨rfl, rfl⟩ := trodVars_none hV
  have k0 := h0
  have lt0 : ∀ x ∈ p0, x.block < W.heap.size := by obtain ⟨m, hm⟩ := k0; exact DataW.trod_lt m _ _ _ hm
  have k1 := h1
  have lt1 : ∀ x ∈ p1, x.block < W.heap.size := by obtain ⟨m, hm⟩ := k1; exact DataW.trod_lt m _ _ _ hm
  obtain ⟨a0, cap0, o0, rfl, e0, f0⟩ := open_occ (hval 0 24 v0 rfl rfl) h0
  obtain ⟨a1, cap1, o1, rfl, e1, f1⟩ := open_occ (hval 1 24 v1 rfl rfl) h1
  clear hA0
  refine (walk a0 cap0 o0 a1 cap1 o1 W e0 f0 e1 f1 (table hL)).mono fun e W' ⟨he, bel⟩ => ?_
  subst he
  exact ⟨_, rfl, _, _, _, [], _, [], hW', trodAll_mk1 (shut_bool Tryd.underlying4 _), (trodAll_cons_mk (Below.trod laidOut (by kernel_rfl) (of_decide_eq_true (by kernel_rfl)) k0 bel lt0) (trodAll_cons_mk (Below.trod laidOut (by kernel_rfl) (of_decide_eq_true (by kernel_rfl)) k1 bel lt1) trodAll_mk0)), rfl, bel.frame _, fun h => by cases h⟩

theorem laid_met (os : Os) : laidMet Tryd.prog Rows.fnExactOccJoinRow.laid (({ World.holding Tryd.prog os ⟨#[], #[], []⟩ with heap := ((World.holding Tryd.prog os ⟨#[], #[], []⟩).heap.modify 0 fun
      | .cells _ t frozen => .cells #[.int .u8 0, .int .u8 1, .int .u8 28, .int .u8 2, .int .u8 29, .int .u8 14, .int .u8 24, .int .u8 3, .int .u8 30, .int .u8 22, .int .u8 20, .int .u8 15, .int .u8 25, .int .u8 17, .int .u8 4, .int .u8 8, .int .u8 31, .int .u8 27, .int .u8 13, .int .u8 23, .int .u8 21, .int .u8 19, .int .u8 16, .int .u8 7, .int .u8 26, .int .u8 12, .int .u8 18, .int .u8 6, .int .u8 11, .int .u8 5, .int .u8 10, .int .u8 9] t frozen
      | o => o) } : World).forCall (fun _ _ => 0) ⟨#[], #[.agg #[.int .i64 0, .int .i64 0, .slice none 0 0], .agg #[.int .i64 0, .int .i64 0, .slice none 0 0]], []⟩).memory :=
  laidMet_of_run' 8 (by kernel_rfl) (by kernel_rfl)
theorem reads (os : Os) {H : Type} (enc : TypeId × Value → H) : ∃ places, DataW.whole enc Tryd.prog (({ World.holding Tryd.prog os ⟨#[], #[], []⟩ with heap := ((World.holding Tryd.prog os ⟨#[], #[], []⟩).heap.modify 0 fun
      | .cells _ t frozen => .cells #[.int .u8 0, .int .u8 1, .int .u8 28, .int .u8 2, .int .u8 29, .int .u8 14, .int .u8 24, .int .u8 3, .int .u8 30, .int .u8 22, .int .u8 20, .int .u8 15, .int .u8 25, .int .u8 17, .int .u8 4, .int .u8 8, .int .u8 31, .int .u8 27, .int .u8 13, .int .u8 23, .int .u8 21, .int .u8 19, .int .u8 16, .int .u8 7, .int .u8 26, .int .u8 12, .int .u8 18, .int .u8 6, .int .u8 11, .int .u8 5, .int .u8 10, .int .u8 9] t frozen
      | o => o) } : World).forCall (fun _ _ => 0) ⟨#[], #[.agg #[.int .i64 0, .int .i64 0, .slice none 0 0], .agg #[.int .i64 0, .int .i64 0, .slice none 0 0]], []⟩).memory Tryd.f3.params.toList Rows.fnExactOccJoinSpec.vars false (#[.agg #[.int .i64 0, .int .i64 0, .slice none 0 0], .agg #[.int .i64 0, .int .i64 0, .slice none 0 0]] : Array Value).toList 8 = some ([.agg [.lit (.int .i64 0), .lit (.int .i64 0), .nil], .agg [.lit (.int .i64 0), .lit (.int .i64 0), .nil]], [], places) :=
  ⟨[], by kernel_rfl⟩

set_option maxRecDepth 100000 in
theorem lifted (os : Os) (started : os.Started) (H : Type) (enc : TypeId × Value → H) (F : Stop.Interp) :
    ReturnsInHanded {} Tryd.checked os 3 .any ((OpenSpec.ofChange Rows.fnExactOccJoinSpec).preRow enc Tryd.prog Tryd.f3 Rows.fnExactOccJoinRow.domain false Rows.fnExactOccJoinRow.laid) (((OpenSpec.ofChange Rows.fnExactOccJoinSpec).at F).post enc Tryd.prog Tryd.f3 false true false false) := by
  obtain ⟨places, hx⟩ := reads os enc
  refine returnsInHanded_of_row (C := Tryd.checked) (s := OpenSpec.ofChange Rows.fnExactOccJoinSpec) own started (by kernel_rfl) Tryd.func3
    (witness_row_at (enc := enc) (C := Tryd.checked) false ({ World.holding Tryd.prog os ⟨#[], #[], []⟩ with heap := ((World.holding Tryd.prog os ⟨#[], #[], []⟩).heap.modify 0 fun
      | .cells _ t frozen => .cells #[.int .u8 0, .int .u8 1, .int .u8 28, .int .u8 2, .int .u8 29, .int .u8 14, .int .u8 24, .int .u8 3, .int .u8 30, .int .u8 22, .int .u8 20, .int .u8 15, .int .u8 25, .int .u8 17, .int .u8 4, .int .u8 8, .int .u8 31, .int .u8 27, .int .u8 13, .int .u8 23, .int .u8 21, .int .u8 19, .int .u8 16, .int .u8 7, .int .u8 26, .int .u8 12, .int .u8 18, .int .u8 6, .int .u8 11, .int .u8 5, .int .u8 10, .int .u8 9] t frozen
      | o => o) } : World) #[.agg #[.int .i64 0, .int .i64 0, .slice none 0 0], .agg #[.int .i64 0, .int .i64 0, .slice none 0 0]] rfl (by kernel_rfl) (by kernel_rfl) (by kernel_rfl)
      (OpenSpec.preRow_of_cond 8 hx (by kernel_rfl) (fun k hk => by cases hk) (by kernel_rfl) (laid_met os))) ?_
  intro W base args ds gs before hval hW _ _ _ hL _ _
  exact contract H enc W base args ds gs before hval hW hL

theorem said : Rows.FnExactOccJoinSaid :=
  OpenClaim.holds_of_cond 3 Tryd.f3 rfl rfl rfl rfl rfl rfl rfl ⟨rfl, rfl, rfl, rfl, rfl⟩ rfl rfl rfl rfl rfl (by kernel_rfl) Tryd.func3 (by kernel_rfl)
    (of_decide_eq_true (by kernel_rfl)) (by unfold Func.isWrapper; first | (rw [if_pos (by decide +kernel)]; kernel_rfl) | (rw [if_neg (by decide +kernel)]; exact ⟨rfl, rfl⟩))
    (fun os started H enc _ F => by rw [OpenClaim.pre_eq_preRow]; exact lifted os started H enc F)

theorem plain (f : FuncId) (fn : Func) (hf : Tryd.pinned.checked.prog.funcNamed "loop.example/bellman/laws.FnExactOccJoin" = some f) (hfn : Tryd.pinned.checked.prog.funcs[f]? = some fn) :
    false = Tryd.pinned.checked.prog.looks [] ∧ ∀ (j : Nat) t, fn.params[j]? = some t → Tryd.pinned.checked.prog.wantsStandIn t = false := by
  obtain rfl : f = 3 := Option.some.inj ((show Tryd.prog.funcNamed "loop.example/bellman/laws.FnExactOccJoin" = some 3 by kernel_rfl).symm.trans hf) |>.symm
  obtain rfl : fn = Tryd.f3 := (Option.some.inj (Tryd.func3.symm.trans hfn)).symm
  refine ⟨by kernel_rfl, fun j t ht => ?_⟩
  rw [Tryd.params3] at ht
  have hm := Array.mem_of_getElem? ht
  simp only [List.mem_toArray, List.mem_cons, List.not_mem_nil, or_false] at hm
  rcases hm with rfl | rfl
  · exact (show Tryd.prog.wantsStandIn 24 = false by kernel_rfl)
  · exact (show Tryd.prog.wantsStandIn 24 = false by kernel_rfl)

theorem card : Rows.FnExactOccJoinCardSaid :=
  Claim7.holds_tied_plain_at .later [] _ _ _ _ said (fun _ h => by cases h) (by kernel_rfl) (fun _ h => by cases h) fnExactOccJoin_row_tie rfl ⟨rfl, rfl⟩ (by kernel_rfl) rfl plain (by kernel_rfl)
end Go.Proofs.YtmpkglfpcjoeiaaDoor.fnExactOccJoin
namespace Go.Proofs.YtmpkglfpcjoeiaaDoor
theorem fnExactOccJoin_holds : Rows.FnExactOccJoinCardSaid := fnExactOccJoin.card
#print axioms fnExactOccJoin_holds
end Go.Proofs.YtmpkglfpcjoeiaaDoor

