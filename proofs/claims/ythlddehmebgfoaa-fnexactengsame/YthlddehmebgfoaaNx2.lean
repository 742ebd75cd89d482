/- An engine is copied by the laws: all its lists in memory of the call's own. -/
import Derived.Test.YthlddehmebgfoaaNx
import Derived.Test.YthlddehmebgfoaaGx2
import Derived.Test.YthlddehmebgfoaaRu3
namespace Go.Proofs.Ythlddehmebgfoaa
open Go.ChangeShapes Go.WideShapes Go.ChangeAt Go.RowKit Go.Deep
set_option linter.unusedVariables false
set_option maxRecDepth 4000

/-- Its lists lie in rows of the call's own, from B on. -/
structure NxOwn (w : World) (B d0 d1 d2 d3 d4 : Nat) (x : Nx) : Prop where
  ru : RusHas w B d0 x.ru
  gr : GxsHas w B d1 x.gr
  ev : EvRow w d2 x.ev ∧ B ≤ d2 ∧ d2 < w.heap.size ∧ x.ev.length ≤ maxLen
  ks : IntRow w d3 x.ks ∧ B ≤ d3 ∧ d3 < w.heap.size ∧ x.ks.length ≤ maxLen
  fi : FxsHas w B d4 x.fi
def xaOf (x : Nx) (d0 d1 d2 d3 d4 : Nat) : XA := ⟨some ⟨d0, 0, none⟩, some ⟨d1, 0, none⟩, some ⟨d2, 0, none⟩, some ⟨d3, 0, none⟩, some ⟨d4, 0, none⟩, x.ru.length, x.gr.length, x.ev.length, x.ks.length, x.fi.length⟩
theorem NxOwn.in {w : World} {B d0 d1 d2 d3 d4 : Nat} {x : Nx} (h : NxOwn w B d0 d1 d2 d3 d4 x) : NxIn w (xaOf x d0 d1 d2 d3 d4) x :=
  ⟨h.ru.rus, h.gr.rows, h.ev.1.evs h.ev.2.2.2, h.ks.1.ints h.ks.2.2.2, h.fi.rows⟩
theorem NxOwn.keeps {w w' : World} {B d0 d1 d2 d3 d4 : Nat} {x : Nx} (h : NxOwn w B d0 d1 d2 d3 d4 x) (k : Keeps B w w') : NxOwn w' B d0 d1 d2 d3 d4 x :=
  ⟨h.ru.keeps k, h.gr.keeps k, ⟨h.ev.1.of_block (k.2 _ h.ev.2.1 h.ev.2.2.1), h.ev.2.1, Nat.lt_of_lt_of_le h.ev.2.2.1 k.1, h.ev.2.2.2⟩,
    ⟨h.ks.1.of_block (k.2 _ h.ks.2.1 h.ks.2.2.1), h.ks.2.1, Nat.lt_of_lt_of_le h.ks.2.2.1 k.1, h.ks.2.2.2⟩, h.fi.keeps k⟩
theorem NxOwn.below {w w' : World} {B d0 d1 d2 d3 d4 : Nat} {x : Nx} (h : NxOwn w B d0 d1 d2 d3 d4 x) (hb : Below w.heap.size w w') : NxOwn w' B d0 d1 d2 d3 d4 x := h.keeps (Keeps.of_below hb)
theorem NxOwn.low {w : World} {B B' d0 d1 d2 d3 d4 : Nat} {x : Nx} (h : NxOwn w B d0 d1 d2 d3 d4 x) (hB : B' ≤ B) : NxOwn w B' d0 d1 d2 d3 d4 x :=
  ⟨h.ru.low hB, h.gr.low hB, ⟨h.ev.1, Nat.le_trans hB h.ev.2.1, h.ev.2.2⟩, ⟨h.ks.1, Nat.le_trans hB h.ks.2.1, h.ks.2.2⟩, h.fi.low hB⟩
/-- A row of the call's own, of whatever kind. -/
structure RowK {α : Type} (Q : World → Nat → List α → Prop) (w : World) (B d : Nat) (l : List α) : Prop where
  row : Q w d l
  ge : B ≤ d
  lt : d < w.heap.size
theorem RowK.keeps_ev {w w' : World} {B d : Nat} {l : List Ev} (h : RowK EvRow w B d l) (k : Keeps B w w') : RowK EvRow w' B d l := ⟨h.row.of_block (k.2 d h.ge h.lt), h.ge, Nat.lt_of_lt_of_le h.lt k.1⟩
theorem RowK.keeps_int {w w' : World} {B d : Nat} {l : List Int} (h : RowK IntRow w B d l) (k : Keeps B w w') : RowK IntRow w' B d l := ⟨h.row.of_block (k.2 d h.ge h.lt), h.ge, Nat.lt_of_lt_of_le h.lt k.1⟩
/-- What the copy of one hands back. -/
def CopyN' (w : World) (x : Nx) (e : Ending) (w' : World) : Prop := ∃ d0 d1 d2 d3 d4, e = .returned (nxV x (xaOf x d0 d1 d2 d3 d4)) ∧ NxOwn w' w.heap.size d0 d1 d2 d3 d4 x ∧ Below w.heap.size w w'

set_option maxHeartbeats 4000000 in
theorem toEng_any (x : Nx) (p : XA) (w : World) (h : NxIn w p x) (hn : nxSize x ≤ 1048576) :
    Calls Try.prog 6 #[nxV x p] w (CopyN' w x) := by
  have hse : nxSize x = rusSize x.ru + gxsSize x.gr + x.ev.length + x.ks.length + fxsSize x.fi := rfl
  have n0 : rusSize x.ru ≤ 1048576 := by omega
  have n1 : gxsSize x.gr ≤ 1048576 := by omega
  have n2 : x.ev.length ≤ 1048576 := by omega
  have n3 : x.ks.length ≤ 1048576 := by omega
  have n4 : fxsSize x.fi ≤ 1048576 := by omega
  clear hse hn
  obtain ⟨A, hA⟩ : ∃ A, w.heap.size = A := ⟨_, rfl⟩
  obtain ⟨w0, hw0⟩ : ∃ w0, w.alloc (.cells (nxC x p) 28) = w0 := ⟨_, rfl⟩
  have hA0 := bx_new w (nxC x p) 28
  have b0 := oBelow_new w (.cells (nxC x p) 28)
  have z0 : (w.alloc (.cells (nxC x p) 28)).heap.size = w.heap.size + 1 := by simp
  rw [hw0] at hA0 b0 z0
  obtain ⟨R, hR⟩ : ∃ R, w0.heap.size = R := ⟨_, rfl⟩
  obtain ⟨v1, hv1⟩ : ∃ v1, w0.alloc (.cells #[.slice none 0 0, .slice none 0 0, .slice none 0 0, .slice none 0 0, .slice none 0 0] 36) = v1 := ⟨_, rfl⟩
  have hR1 := ob_new w0 #[.slice none 0 0, .slice none 0 0, .slice none 0 0, .slice none 0 0, .slice none 0 0] 36
  have b01 := oBelow_new w0 (.cells #[.slice none 0 0, .slice none 0 0, .slice none 0 0, .slice none 0 0, .slice none 0 0] 36)
  have z1 : (w0.alloc (.cells #[.slice none 0 0, .slice none 0 0, .slice none 0 0, .slice none 0 0, .slice none 0 0] 36)).heap.size = w0.heap.size + 1 := by simp
  rw [hv1] at hR1 b01 z1
  obtain ⟨B, hB⟩ : ∃ B, v1.heap.size = B := ⟨_, rfl⟩
  obtain ⟨w1, hw1⟩ : ∃ w1, v1.alloc (.cells #[.slice none 0 0, .slice none 0 0, .slice none 0 0, .slice none 0 0, .slice none 0 0] 36) = w1 := ⟨_, rfl⟩
  have hB01 := ob_new v1 #[.slice none 0 0, .slice none 0 0, .slice none 0 0, .slice none 0 0, .slice none 0 0] 36
  have b02 := oBelow_new v1 (.cells #[.slice none 0 0, .slice none 0 0, .slice none 0 0, .slice none 0 0, .slice none 0 0] 36)
  have z2 : (v1.alloc (.cells #[.slice none 0 0, .slice none 0 0, .slice none 0 0, .slice none 0 0, .slice none 0 0] 36)).heap.size = v1.heap.size + 1 := by simp
  rw [hw1] at hB01 b02 z2
  have b1 := (b0.trans (b01.mono b0.size)).trans (b02.mono (by omega))
  have hA1 := (hA0.below b01).below b02
  have hR1 := hR1.below b02
  rw [hA] at hA1
  rw [hR] at hR1
  rw [hB] at hB01
  have lAR : A < R := by omega
  have lRB : R < B := by omega
  have e1 : B + 1 ≤ w1.heap.size := by omega
  clear z0 z1 z2 b0 b01 b02 hA0
  obtain ⟨q0, q1, q2, q3, q4⟩ := hA1.fiveN
  have hi1 := h.below b1
  unfold nxV
  unfold nxC at hw0 ⊢
  go_enter Try.func6, Try.ntmps6
  go_wp2_with fail
  refine (toRuleS_any _ _ x.ru _ hi1.ru n0).mono ?_
  rintro e w2 ⟨rfl, hP2, hb2⟩
  clear q0 q1 q2 q3 q4 hw0 hv1 hw1
  have s0 : B + 1 ≤ w1.heap.size := by have := hB01.lt; omega
  obtain ⟨d0, hd0⟩ : ∃ d, w1.heap.size = d := ⟨_, rfl⟩
  have b2 := b1.trans (hb2.mono b1.size)
  have hR2 := hR1.below hb2
  have hB2 := hB01.below hb2
  have hA2 := hA1.below hb2
  have k2 : Keeps (B + 1) w1 w2 := Keeps.of_below hb2
  rw [hd0] at hP2 s0 ⊢
  have o0_2 := hP2.low s0
  clear hb2 k2 hP2
  have c0 := hB2.at 0
  have f0 := hB2.free
  obtain ⟨w3, hw3⟩ : ∃ u, w2.setCell ⟨B, 0, none⟩ (.slice (some ⟨d0, 0, none⟩) x.ru.length x.ru.length) = u := ⟨_, rfl⟩
  have hB3 : OB w3 B #[.slice (some ⟨d0, 0, none⟩) x.ru.length x.ru.length, .slice none 0 0, .slice none 0 0, .slice none 0 0, .slice none 0 0] := by rw [← hw3]; exact hB2.set 0 _
  have hA3 : Bx w3 A (nxC x p) := by rw [← hw3]; exact hA2.other (by omega) _ _
  have hR3 : OB w3 R #[.slice none 0 0, .slice none 0 0, .slice none 0 0, .slice none 0 0, .slice none 0 0] := by rw [← hw3]; exact hR2.other (by omega) _ _
  have k3 : Keeps (B + 1) w2 w3 := by rw [← hw3]; exact keeps_set _ (by omega) _ _
  have b3 : Below w.heap.size w w3 := by rw [← hw3]; exact b2.setCell (by show _ ≤ B; omega) _
  have o0_3 := o0_2.keeps k3
  clear k3
  obtain ⟨q0, q1, q2, q3, q4⟩ := hA3.fiveN
  have hi3 := h.below b3
  go_wp2_with fail
  refine (toGraphS_any _ _ x.gr _ hi3.gr n1).mono ?_
  rintro e w4 ⟨rfl, hP4, hb4⟩
  clear q0 q1 q2 q3 q4 c0 f0 hw3
  have s1 : B + 1 ≤ w3.heap.size := by have := hB3.lt; omega
  obtain ⟨d1, hd1⟩ : ∃ d, w3.heap.size = d := ⟨_, rfl⟩
  have b4 := b3.trans (hb4.mono b3.size)
  have hR4 := hR3.below hb4
  have hB4 := hB3.below hb4
  have hA4 := hA3.below hb4
  have k4 : Keeps (B + 1) w3 w4 := Keeps.of_below hb4
  have o0_4 := o0_3.keeps k4
  rw [hd1] at hP4 s1 ⊢
  have o1_4 := hP4.low s1
  clear hb4 k4 hP4
  have c1 := hB4.at 1
  have f1 := hB4.free
  obtain ⟨w5, hw5⟩ : ∃ u, w4.setCell ⟨B, 1, none⟩ (.slice (some ⟨d1, 0, none⟩) x.gr.length x.gr.length) = u := ⟨_, rfl⟩
  have hB5 : OB w5 B #[.slice (some ⟨d0, 0, none⟩) x.ru.length x.ru.length, .slice (some ⟨d1, 0, none⟩) x.gr.length x.gr.length, .slice none 0 0, .slice none 0 0, .slice none 0 0] := by rw [← hw5]; exact hB4.set 1 _
  have hA5 : Bx w5 A (nxC x p) := by rw [← hw5]; exact hA4.other (by omega) _ _
  have hR5 : OB w5 R #[.slice none 0 0, .slice none 0 0, .slice none 0 0, .slice none 0 0, .slice none 0 0] := by rw [← hw5]; exact hR4.other (by omega) _ _
  have k5 : Keeps (B + 1) w4 w5 := by rw [← hw5]; exact keeps_set _ (by omega) _ _
  have b5 : Below w.heap.size w w5 := by rw [← hw5]; exact b4.setCell (by show _ ≤ B; omega) _
  have o0_5 := o0_4.keeps k5
  have o1_5 := o1_4.keeps k5
  clear k5
  obtain ⟨q0, q1, q2, q3, q4⟩ := hA5.fiveN
  have hi5 := h.below b5
  go_wp2_with fail
  refine (toEvS_any _ _ x.ev _ hi5.ev n2).mono ?_
  rintro e w6 ⟨rfl, hP6, hb6⟩
  clear q0 q1 q2 q3 q4 c1 f1 hw5
  have s2 : B + 1 ≤ w5.heap.size := by have := hB5.lt; omega
  obtain ⟨d2, hd2⟩ : ∃ d, w5.heap.size = d := ⟨_, rfl⟩
  have b6 := b5.trans (hb6.mono b5.size)
  have hR6 := hR5.below hb6
  have hB6 := hB5.below hb6
  have hA6 := hA5.below hb6
  have k6 : Keeps (B + 1) w5 w6 := Keeps.of_below hb6
  have o0_6 := o0_5.keeps k6
  have o1_6 := o1_5.keeps k6
  rw [hd2] at hP6 s2 ⊢
  have o2_6 : RowK EvRow w6 (B + 1) d2 x.ev := ⟨hP6, s2, hP6.lt⟩
  clear hb6 k6 hP6
  have c2 := hB6.at 2
  have f2 := hB6.free
  obtain ⟨w7, hw7⟩ : ∃ u, w6.setCell ⟨B, 2, none⟩ (.slice (some ⟨d2, 0, none⟩) x.ev.length x.ev.length) = u := ⟨_, rfl⟩
  have hB7 : OB w7 B #[.slice (some ⟨d0, 0, none⟩) x.ru.length x.ru.length, .slice (some ⟨d1, 0, none⟩) x.gr.length x.gr.length, .slice (some ⟨d2, 0, none⟩) x.ev.length x.ev.length, .slice none 0 0, .slice none 0 0] := by rw [← hw7]; exact hB6.set 2 _
  have hA7 : Bx w7 A (nxC x p) := by rw [← hw7]; exact hA6.other (by omega) _ _
  have hR7 : OB w7 R #[.slice none 0 0, .slice none 0 0, .slice none 0 0, .slice none 0 0, .slice none 0 0] := by rw [← hw7]; exact hR6.other (by omega) _ _
  have k7 : Keeps (B + 1) w6 w7 := by rw [← hw7]; exact keeps_set _ (by omega) _ _
  have b7 : Below w.heap.size w w7 := by rw [← hw7]; exact b6.setCell (by show _ ≤ B; omega) _
  have o0_7 := o0_6.keeps k7
  have o1_7 := o1_6.keeps k7
  have o2_7 := o2_6.keeps_ev k7
  clear k7
  obtain ⟨q0, q1, q2, q3, q4⟩ := hA7.fiveN
  have hi7 := h.below b7
  go_wp2_with fail
  refine (toIntS_any _ _ x.ks _ hi7.ks n3).mono ?_
  rintro e w8 ⟨rfl, hP8, hb8, hl8⟩
  clear q0 q1 q2 q3 q4 c2 f2 hw7
  have s3 : B + 1 ≤ w7.heap.size := by have := hB7.lt; omega
  obtain ⟨d3, hd3⟩ : ∃ d, w7.heap.size = d := ⟨_, rfl⟩
  have b8 := b7.trans (hb8.mono b7.size)
  have hR8 := hR7.below hb8
  have hB8 := hB7.below hb8
  have hA8 := hA7.below hb8
  have k8 : Keeps (B + 1) w7 w8 := Keeps.of_below hb8
  have o0_8 := o0_7.keeps k8
  have o1_8 := o1_7.keeps k8
  have o2_8 := o2_7.keeps_ev k8
  rw [hd3] at hP8 s3 hl8 ⊢
  have o3_8 : RowK IntRow w8 (B + 1) d3 x.ks := ⟨hP8, s3, hl8⟩
  clear hb8 k8 hP8
  have c3 := hB8.at 3
  have f3 := hB8.free
  obtain ⟨w9, hw9⟩ : ∃ u, w8.setCell ⟨B, 3, none⟩ (.slice (some ⟨d3, 0, none⟩) x.ks.length x.ks.length) = u := ⟨_, rfl⟩
  have hB9 : OB w9 B #[.slice (some ⟨d0, 0, none⟩) x.ru.length x.ru.length, .slice (some ⟨d1, 0, none⟩) x.gr.length x.gr.length, .slice (some ⟨d2, 0, none⟩) x.ev.length x.ev.length, .slice (some ⟨d3, 0, none⟩) x.ks.length x.ks.length, .slice none 0 0] := by rw [← hw9]; exact hB8.set 3 _
  have hA9 : Bx w9 A (nxC x p) := by rw [← hw9]; exact hA8.other (by omega) _ _
  have hR9 : OB w9 R #[.slice none 0 0, .slice none 0 0, .slice none 0 0, .slice none 0 0, .slice none 0 0] := by rw [← hw9]; exact hR8.other (by omega) _ _
  have k9 : Keeps (B + 1) w8 w9 := by rw [← hw9]; exact keeps_set _ (by omega) _ _
  have b9 : Below w.heap.size w w9 := by rw [← hw9]; exact b8.setCell (by show _ ≤ B; omega) _
  have o0_9 := o0_8.keeps k9
  have o1_9 := o1_8.keeps k9
  have o2_9 := o2_8.keeps_ev k9
  have o3_9 := o3_8.keeps_int k9
  clear k9
  obtain ⟨q0, q1, q2, q3, q4⟩ := hA9.fiveN
  have hi9 := h.below b9
  go_wp2_with fail
  refine (toFireS_any _ _ x.fi _ hi9.fi n4).mono ?_
  rintro e w10 ⟨rfl, hP10, hb10⟩
  clear q0 q1 q2 q3 q4 c3 f3 hw9
  have s4 : B + 1 ≤ w9.heap.size := by have := hB9.lt; omega
  obtain ⟨d4, hd4⟩ : ∃ d, w9.heap.size = d := ⟨_, rfl⟩
  have b10 := b9.trans (hb10.mono b9.size)
  have hR10 := hR9.below hb10
  have hB10 := hB9.below hb10
  have hA10 := hA9.below hb10
  have k10 : Keeps (B + 1) w9 w10 := Keeps.of_below hb10
  have o0_10 := o0_9.keeps k10
  have o1_10 := o1_9.keeps k10
  have o2_10 := o2_9.keeps_ev k10
  have o3_10 := o3_9.keeps_int k10
  rw [hd4] at hP10 s4 ⊢
  have o4_10 := hP10.low s4
  clear hb10 k10 hP10
  have c4 := hB10.at 4
  have f4 := hB10.free
  obtain ⟨w11, hw11⟩ : ∃ u, w10.setCell ⟨B, 4, none⟩ (.slice (some ⟨d4, 0, none⟩) x.fi.length x.fi.length) = u := ⟨_, rfl⟩
  have hB11 : OB w11 B #[.slice (some ⟨d0, 0, none⟩) x.ru.length x.ru.length, .slice (some ⟨d1, 0, none⟩) x.gr.length x.gr.length, .slice (some ⟨d2, 0, none⟩) x.ev.length x.ev.length, .slice (some ⟨d3, 0, none⟩) x.ks.length x.ks.length, .slice (some ⟨d4, 0, none⟩) x.fi.length x.fi.length] := by rw [← hw11]; exact hB10.set 4 _
  have hA11 : Bx w11 A (nxC x p) := by rw [← hw11]; exact hA10.other (by omega) _ _
  have hR11 : OB w11 R #[.slice none 0 0, .slice none 0 0, .slice none 0 0, .slice none 0 0, .slice none 0 0] := by rw [← hw11]; exact hR10.other (by omega) _ _
  have k11 : Keeps (B + 1) w10 w11 := by rw [← hw11]; exact keeps_set _ (by omega) _ _
  have b11 : Below w.heap.size w w11 := by rw [← hw11]; exact b10.setCell (by show _ ≤ B; omega) _
  have o0_11 := o0_10.keeps k11
  have o1_11 := o1_10.keeps k11
  have o2_11 := o2_10.keeps_ev k11
  have o3_11 := o3_10.keeps_int k11
  have o4_11 := o4_10.keeps k11
  clear k11
  have y0 := hB11.at 0
  have y1 := hB11.at 1
  have y2 := hB11.at 2
  have y3 := hB11.at 3
  have y4 := hB11.at 4
  have x0 := hR11.at 0
  have x1 := hR11.at 1
  have x2 := hR11.at 2
  have x3 := hR11.at 3
  have x4 := hR11.at 4
  have fR := hR11.free
  go_wp2
  have hRz := (((((hR11.set 0 (.slice (some ⟨d0, 0, none⟩) x.ru.length x.ru.length)).set 1 (.slice (some ⟨d1, 0, none⟩) x.gr.length x.gr.length)).set 2 (.slice (some ⟨d2, 0, none⟩) x.ev.length x.ev.length)).set 3 (.slice (some ⟨d3, 0, none⟩) x.ks.length x.ks.length)).set 4 (.slice (some ⟨d4, 0, none⟩) x.fi.length x.fi.length))
  have kz : Keeps (B + 1) w11 _ := ((((keeps_set (B := B + 1) (b := R) w11 (by omega) 0 (.slice (some ⟨d0, 0, none⟩) x.ru.length x.ru.length)).trans (keeps_set (B := B + 1) (b := R) _ (by omega) 1 (.slice (some ⟨d1, 0, none⟩) x.gr.length x.gr.length))).trans (keeps_set (B := B + 1) (b := R) _ (by omega) 2 (.slice (some ⟨d2, 0, none⟩) x.ev.length x.ev.length))).trans (keeps_set (B := B + 1) (b := R) _ (by omega) 3 (.slice (some ⟨d3, 0, none⟩) x.ks.length x.ks.length))).trans (keeps_set (B := B + 1) (b := R) _ (by omega) 4 (.slice (some ⟨d4, 0, none⟩) x.fi.length x.fi.length))
  have bz := (((((b11.setCell (p := ⟨R, 0, none⟩) (by show _ ≤ R; omega) (.slice (some ⟨d0, 0, none⟩) x.ru.length x.ru.length)).setCell (p := ⟨R, 1, none⟩) (by show _ ≤ R; omega) (.slice (some ⟨d1, 0, none⟩) x.gr.length x.gr.length)).setCell (p := ⟨R, 2, none⟩) (by show _ ≤ R; omega) (.slice (some ⟨d2, 0, none⟩) x.ev.length x.ev.length)).setCell (p := ⟨R, 3, none⟩) (by show _ ≤ R; omega) (.slice (some ⟨d3, 0, none⟩) x.ks.length x.ks.length)).setCell (p := ⟨R, 4, none⟩) (by show _ ≤ R; omega) (.slice (some ⟨d4, 0, none⟩) x.fi.length x.fi.length))
  generalize (World.setCell _ ⟨R, 4, none⟩ (.slice (some ⟨d4, 0, none⟩) x.fi.length x.fi.length)) = wz at hRz kz bz ⊢
  have r0 := hRz.at 0
  have r1 := hRz.at 1
  have r2 := hRz.at 2
  have r3 := hRz.at 3
  have r4 := hRz.at 4
  have e0 := h.ev.len
  have e3 := h.ks.len
  have own : NxOwn wz (B + 1) d0 d1 d2 d3 d4 x := ⟨o0_11.keeps kz, o1_11.keeps kz, ⟨(o2_11.keeps_ev kz).row, (o2_11.keeps_ev kz).ge, (o2_11.keeps_ev kz).lt, e0⟩, ⟨(o3_11.keeps_int kz).row, (o3_11.keeps_int kz).ge, (o3_11.keeps_int kz).lt, e3⟩, o4_11.keeps kz⟩
  refine bodyPost_ret (v := nxV x (xaOf x d0 d1 d2 d3 d4)) (by simp [results, Try.results6, go_sem, nxV, nxC, xaOf, r0, r1, r2, r3, r4]) rfl ⟨d0, d1, d2, d3, d4, rfl, own.low (by omega), bz⟩
end Go.Proofs.Ythlddehmebgfoaa
