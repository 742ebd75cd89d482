/- At every two engines the program's EngSame answers as the specification's; the arguments read afterwards as before. No condition. -/
import Derived.Test.YthlddehmebgfoaaNx5
import Derived.Deep.RegionHeld
namespace Go.Proofs.Ythlddehmebgfoaa.fnExactEngSame
open Go.ChangeShapes Go.WideShapes Go.ChangeAt Go.RowKit
set_option linter.unusedVariables false
set_option maxRecDepth 4000

theorem _root_.Go.Proofs.Ythlddehmebgfoaa.Bx.fiveO {w : World} {A : Nat} {x : Nx} {d0 d1 d2 d3 d4 : Nat} (h : Bx w A (nxC x (xaOf x d0 d1 d2 d3 d4))) :
    w.cell? ⟨A, 0, none⟩ = some (.slice (some ⟨d0, 0, none⟩) x.ru.length x.ru.length) ∧ w.cell? ⟨A, 1, none⟩ = some (.slice (some ⟨d1, 0, none⟩) x.gr.length x.gr.length) ∧ w.cell? ⟨A, 2, none⟩ = some (.slice (some ⟨d2, 0, none⟩) x.ev.length x.ev.length) ∧ w.cell? ⟨A, 3, none⟩ = some (.slice (some ⟨d3, 0, none⟩) x.ks.length x.ks.length) ∧ w.cell? ⟨A, 4, none⟩ = some (.slice (some ⟨d4, 0, none⟩) x.fi.length x.fi.length) := h.fiveN
set_option maxHeartbeats 4000000 in
theorem walk (x : Nx) (p : XA) (y : Nx) (q : XA) (w : World) (h : NxIn w p x) (hx : x.Wf) (h' : NxIn w q y) (hy : y.Wf) :
    Calls Try.prog 3 #[nxV x p, nxV y q] w fun e w' => e = .returned (.bool true) ∧ Below w.heap.size w w' := by
  obtain ⟨w00, hw00⟩ : ∃ w00, w.alloc (.cells (nxC x p) 28) = w00 := ⟨_, rfl⟩
  have hA00 := bx_new w (nxC x p) 28
  have b000 := oBelow_new w (.cells (nxC x p) 28)
  rw [hw00] at hA00 b000
  obtain ⟨w0, hw0⟩ : ∃ w0, w00.alloc (.cells (nxC y q) 28) = w0 := ⟨_, rfl⟩
  have hB00 := bx_new w00 (nxC y q) 28
  have b001 := oBelow_new w00 (.cells (nxC y q) 28)
  rw [hw0] at hB00 b001
  have hA0 := hA00.below b001
  have b00 := b000.trans (b001.mono b000.size)
  obtain ⟨A, hA⟩ : ∃ A, w.heap.size = A := ⟨_, rfl⟩
  obtain ⟨B, hB⟩ : ∃ B, w00.heap.size = B := ⟨_, rfl⟩
  rw [hA] at hA0
  rw [hB] at hB00
  clear b000 b001 hA00
  obtain ⟨p0, p1, p2, p3, p4⟩ := hA0.fiveN
  obtain ⟨q0, q1, q2, q3, q4⟩ := hB00.fiveN
  unfold nxV
  unfold nxC at hw00 hw0 ⊢
  by_cases hbig : nxSize x ≤ 1048576
  case neg =>
    have hif : szDown 1048576 (nxSize x) = -1 := if_pos (by omega)
    go_enter Try.func3, Try.ntmps3
    go_wp2_with fail
    refine (szEng_any x p _ _ (h.below b00) (by omega) (by omega)).mono ?_
    rintro e w1 ⟨rfl, hb1⟩
    rw [hif]
    clear hif
    go_wp2
    go_ret
    exact ⟨rfl, b00.trans (hb1.mono b00.size)⟩
  have hif : szDown 1048576 (nxSize x) = 1048576 - (nxSize x : Int) := if_neg (by omega)
  have hge : ¬ (1048576 - (nxSize x : Int) < 0) := by omega
  by_cases hbig2 : nxSize x + nxSize y ≤ 1048576
  case neg =>
    have hif2 : szDown (1048576 - (nxSize x : Int)) (nxSize y) = -1 := if_pos (by omega)
    go_enter Try.func3, Try.ntmps3
    go_wp2_with fail
    refine (szEng_any x p _ _ (h.below b00) (by omega) (by omega)).mono ?_
    rintro e w1 ⟨rfl, hb1⟩
    rw [hif]
    clear hif p0 p1 p2 p3 p4 q0 q1 q2 q3 q4 hw0 hw00
    have b01 := b00.trans (hb1.mono b00.size)
    have hB1 := hB00.below hb1
    obtain ⟨q0, q1, q2, q3, q4⟩ := hB1.fiveN
    go_wp2_with fail
    refine (szEng_any y q _ _ (h'.below b01) (by omega) (by omega)).mono ?_
    rintro e w2 ⟨rfl, hb2⟩
    rw [hif2]
    clear hif2
    go_wp2
    go_ret
    exact ⟨rfl, b01.trans (hb2.mono b01.size)⟩
  have hif2 : szDown (1048576 - (nxSize x : Int)) (nxSize y) = 1048576 - (nxSize x : Int) - (nxSize y : Int) := if_neg (by omega)
  have hge2 : ¬ (1048576 - (nxSize x : Int) - (nxSize y : Int) < 0) := by omega
  have hn1 : nxSize x ≤ 1048576 := hbig
  have hnr : rusSize x.ru ≤ 1048576 := by unfold nxSize at hn1; omega
  have hn2 : nxSize y ≤ 1048576 := by omega
  go_enter Try.func3, Try.ntmps3
  go_wp2_with fail
  refine (szEng_any x p _ _ (h.below b00) (by omega) (by omega)).mono ?_
  rintro e w1 ⟨rfl, hb1⟩
  rw [hif]
  clear hif p0 p1 p2 p3 p4 q0 q1 q2 q3 q4 hw0 hw00
  have b01 := b00.trans (hb1.mono b00.size)
  have hA1 := hA0.below hb1
  have hB1 := hB00.below hb1
  obtain ⟨q0, q1, q2, q3, q4⟩ := hB1.fiveN
  go_wp2_with fail
  refine (szEng_any y q _ _ (h'.below b01) (by omega) (by omega)).mono ?_
  rintro e w2 ⟨rfl, hb2⟩
  rw [hif2]
  clear hif2 q0 q1 q2 q3 q4
  have b02 := b01.trans (hb2.mono b01.size)
  have hA2 := hA1.below hb2
  have hB2 := hB1.below hb2
  have hA2d : Bx w2.drew A (nxC x p) := hA2
  have hB2d : Bx w2.drew B (nxC y q) := hB2
  have b02d := b02.drew
  obtain ⟨p0, p1, p2, p3, p4⟩ := hA2.fiveN
  obtain ⟨q0, q1, q2, q3, q4⟩ := hB2.fiveN
  go_wp2_with fail
  go_region_held (fun v => (v.cell? ⟨A, 0, none⟩ = some (.slice p.a0 x.ru.length p.c0) ∧ v.cell? ⟨A, 1, none⟩ = some (.slice p.a1 x.gr.length p.c1) ∧ v.cell? ⟨A, 2, none⟩ = some (.slice p.a2 x.ev.length p.c2) ∧ v.cell? ⟨A, 3, none⟩ = some (.slice p.a3 x.ks.length p.c3) ∧ v.cell? ⟨A, 4, none⟩ = some (.slice p.a4 x.fi.length p.c4)) ∧
      (v.cell? ⟨B, 0, none⟩ = some (.slice q.a0 y.ru.length q.c0) ∧ v.cell? ⟨B, 1, none⟩ = some (.slice q.a1 y.gr.length q.c1) ∧ v.cell? ⟨B, 2, none⟩ = some (.slice q.a2 y.ev.length q.c2) ∧ v.cell? ⟨B, 3, none⟩ = some (.slice q.a3 y.ks.length q.c3) ∧ v.cell? ⟨B, 4, none⟩ = some (.slice q.a4 y.fi.length q.c4))) (go_keep)
    (first
    | (go_at_call_of 6 (List.length (Nx.ru x)); refine (toEng_any x p _ (h.below b02d) hn1).mono ?_; rintro e w3 ⟨e3, f3, g3, h3, i3, rfl, hr3, hb3⟩; obtain ⟨r0, r1, r2, r3, r4⟩ := (hA2d.below hb3).fiveN; obtain ⟨s0, s1, s2, s3, s4⟩ := (hB2d.below hb3).fiveN)
    | (go_at_call_of 6 (List.length (Nx.ru y)); refine (toEng_any y q _ (h'.below (b02d.trans (hb3.mono b02d.size))) hn2).mono ?_; rintro e w4 ⟨e4, f4, g4, h4, i4, rfl, hr4, hb4⟩; obtain ⟨r0, r1, r2, r3, r4⟩ := ((hA2d.below hb3).below hb4).fiveN; obtain ⟨s0, s1, s2, s3, s4⟩ := ((hB2d.below hb3).below hb4).fiveN)
    | (go_at_call 5; refine (specEngSame_any x y (xaOf x e3 f3 g3 h3 i3) (xaOf y e4 f4 g4 h4 i4) _ (hr3.in.below hb4) hr4.in hx hy).mono ?_; rintro e w5 ⟨rfl, hb5⟩; obtain ⟨r0, r1, r2, r3, r4⟩ := (((hA2d.below hb3).below hb4).below hb5).fiveN; obtain ⟨s0, s1, s2, s3, s4⟩ := (((hB2d.below hb3).below hb4).below hb5).fiveN))
  have b03 := b02d.trans (hb3.mono b02d.size)
  have b04 := b03.trans (hb4.mono b03.size)
  have b05 := b04.trans (hb5.mono b04.size)
  have hA5 := ((hA2d.below hb3).below hb4).below hb5
  have hB5 := ((hB2d.below hb3).below hb4).below hb5
  clear p0 p1 p2 p3 p4 q0 q1 q2 q3 q4
  obtain ⟨p0, p1, p2, p3, p4⟩ := hA5.fiveN
  obtain ⟨q0, q1, q2, q3, q4⟩ := hB5.fiveN
  go_wp2_with fail
  refine (toEng_any x p _ (h.below b05) hn1).mono ?_
  rintro e w6 ⟨e6, f6, g6, h6, i6, rfl, hr6, hb6⟩
  have b06 := b05.trans (hb6.mono b05.size)
  have hA6 := hA5.below hb6
  have hB6 := hB5.below hb6
  clear p0 p1 p2 p3 p4 q0 q1 q2 q3 q4
  obtain ⟨w7, hw7⟩ : ∃ w7, w6.alloc (.cells (nxC x (xaOf x e6 f6 g6 h6 i6)) 36) = w7 := ⟨_, rfl⟩
  have hX7 := bx_new w6 (nxC x (xaOf x e6 f6 g6 h6 i6)) 36
  have hb7 := oBelow_new w6 (.cells (nxC x (xaOf x e6 f6 g6 h6 i6)) 36)
  rw [hw7] at hX7 hb7
  obtain ⟨X, hX⟩ : ∃ X, w6.heap.size = X := ⟨_, rfl⟩
  have hX7' := hX7
  rw [hX] at hX7
  have hA7 := hA6.below hb7
  have hB7 := hB6.below hb7
  have b07 := b06.trans (hb7.mono b06.size)
  unfold nxV
  unfold nxC xaOf at hw7 ⊢
  simp only at hw7 ⊢
  obtain ⟨q0, q1, q2, q3, q4⟩ := hB7.fiveN
  go_wp2_with fail
  refine (toEng_any y q _ (h'.below b07) hn2).mono ?_
  rintro e w8 ⟨e8, f8, g8, h8, i8, rfl, hr8, hb8⟩
  have b08 := b07.trans (hb8.mono b07.size)
  have hA8 := hA7.below hb8
  have hB8 := hB7.below hb8
  have hX8 := hX7.below hb8
  clear q0 q1 q2 q3 q4 hw7
  obtain ⟨w9, hw9⟩ : ∃ w9, w8.alloc (.cells (nxC y (xaOf y e8 f8 g8 h8 i8)) 36) = w9 := ⟨_, rfl⟩
  have hY9 := bx_new w8 (nxC y (xaOf y e8 f8 g8 h8 i8)) 36
  have hb9 := oBelow_new w8 (.cells (nxC y (xaOf y e8 f8 g8 h8 i8)) 36)
  rw [hw9] at hY9 hb9
  obtain ⟨Y, hY⟩ : ∃ Y, w8.heap.size = Y := ⟨_, rfl⟩
  rw [hY] at hY9
  have hA9 := hA8.below hb9
  have hB9 := hB8.below hb9
  have hX9 := hX8.below hb9
  have b09 := b08.trans (hb9.mono b08.size)
  unfold nxV
  unfold nxC xaOf at hw9 ⊢
  simp only at hw9 ⊢
  obtain ⟨p0, p1, p2, p3, p4⟩ := hX9.fiveO
  obtain ⟨q0, q1, q2, q3, q4⟩ := hY9.fiveO
  have b69 := (hb7.trans (hb8.mono hb7.size))
  have b69 := b69.trans (hb9.mono b69.size)
  have N6 := hr6.below b69
  have N8 := hr8.below hb9
  go_wp2_with fail
  refine (implEngSame_any x y _ e6 f6 g6 h6 i6 (xaOf y e8 f8 g8 h8 i8) _ N6 N8.in hnr).mono ?_
  rintro e w10 ⟨rfl, hb10⟩
  have b010 := b09.trans (hb10.mono b09.size)
  have hA10 := hA9.below hb10
  have hB10 := hB9.below hb10
  have hX10 := hX9.below hb10
  have hY10 := hY9.below hb10
  have N6 := N6.below hb10
  have N8 := N8.below hb10
  clear p0 p1 p2 p3 p4 q0 q1 q2 q3 q4 hw9
  obtain ⟨p0, p1, p2, p3, p4⟩ := hA10.fiveN
  obtain ⟨q0, q1, q2, q3, q4⟩ := hX10.fiveO
  have hA10d : Bx w10.drew A (nxC x p) := hA10
  have hX10d : Bx w10.drew X (nxC x (xaOf x e6 f6 g6 h6 i6)) := hX10
  have hB10d : Bx w10.drew B (nxC y q) := hB10
  have hY10d : Bx w10.drew Y (nxC y (xaOf y e8 f8 g8 h8 i8)) := hY10
  have N6d : NxIn w10.drew (xaOf x e6 f6 g6 h6 i6) x := N6.in.below (Below.refl _ _).drew
  have N8d : NxIn w10.drew (xaOf y e8 f8 g8 h8 i8) y := N8.in.below (Below.refl _ _).drew
  have b010d := b010.drew
  have hself := nxEqB_self x
  have hself' := nxEqB_self y
  go_wp2_with fail
  go_region_held (fun v => (v.cell? ⟨A, 0, none⟩ = some (.slice p.a0 x.ru.length p.c0) ∧ v.cell? ⟨A, 1, none⟩ = some (.slice p.a1 x.gr.length p.c1) ∧ v.cell? ⟨A, 2, none⟩ = some (.slice p.a2 x.ev.length p.c2) ∧ v.cell? ⟨A, 3, none⟩ = some (.slice p.a3 x.ks.length p.c3) ∧ v.cell? ⟨A, 4, none⟩ = some (.slice p.a4 x.fi.length p.c4)) ∧
      (v.cell? ⟨X, 0, none⟩ = some (.slice (some ⟨e6, 0, none⟩) x.ru.length x.ru.length) ∧ v.cell? ⟨X, 1, none⟩ = some (.slice (some ⟨f6, 0, none⟩) x.gr.length x.gr.length) ∧ v.cell? ⟨X, 2, none⟩ = some (.slice (some ⟨g6, 0, none⟩) x.ev.length x.ev.length) ∧ v.cell? ⟨X, 3, none⟩ = some (.slice (some ⟨h6, 0, none⟩) x.ks.length x.ks.length) ∧ v.cell? ⟨X, 4, none⟩ = some (.slice (some ⟨i6, 0, none⟩) x.fi.length x.fi.length))) (go_keep)
    (first
    | (go_at_call 6; refine (toEng_any x p _ (h.below b010d) hn1).mono ?_; rintro e w11 ⟨e11, f11, g11, h11, i11, rfl, hr11, hb11⟩; obtain ⟨r0, r1, r2, r3, r4⟩ := (hX10d.below hb11).fiveO; obtain ⟨s0, s1, s2, s3, s4⟩ := (hA10d.below hb11).fiveN)
    | (go_at_call 8; refine (eqEng_any x x (xaOf x e6 f6 g6 h6 i6) (xaOf x e11 f11 g11 h11 i11) _ (N6d.below hb11) hr11.in).mono ?_; rintro e w12 ⟨rfl, hb12⟩; obtain ⟨t0, t1, t2, t3, t4⟩ := ((hX10d.below hb11).below hb12).fiveO; obtain ⟨u0, u1, u2, u3, u4⟩ := ((hA10d.below hb11).below hb12).fiveN))
  have b011 := b010d.trans (hb11.mono b010d.size)
  have b012 := b011.trans (hb12.mono b011.size)
  have hB12 := (hB10d.below hb11).below hb12
  have hY12 := (hY10d.below hb11).below hb12
  have N8e := (N8d.below hb11).below hb12
  clear p0 p1 p2 p3 p4 q0 q1 q2 q3 q4
  obtain ⟨p0, p1, p2, p3, p4⟩ := hB12.fiveN
  obtain ⟨q0, q1, q2, q3, q4⟩ := hY12.fiveO
  have hB12d : Bx w12.drew B (nxC y q) := hB12
  have hY12d : Bx w12.drew Y (nxC y (xaOf y e8 f8 g8 h8 i8)) := hY12
  have N8f : NxIn w12.drew (xaOf y e8 f8 g8 h8 i8) y := N8e.below (Below.refl _ _).drew
  have b012d := b012.drew
  go_wp2_with fail
  go_region_held (fun v => (v.cell? ⟨B, 0, none⟩ = some (.slice q.a0 y.ru.length q.c0) ∧ v.cell? ⟨B, 1, none⟩ = some (.slice q.a1 y.gr.length q.c1) ∧ v.cell? ⟨B, 2, none⟩ = some (.slice q.a2 y.ev.length q.c2) ∧ v.cell? ⟨B, 3, none⟩ = some (.slice q.a3 y.ks.length q.c3) ∧ v.cell? ⟨B, 4, none⟩ = some (.slice q.a4 y.fi.length q.c4)) ∧
      (v.cell? ⟨Y, 0, none⟩ = some (.slice (some ⟨e8, 0, none⟩) y.ru.length y.ru.length) ∧ v.cell? ⟨Y, 1, none⟩ = some (.slice (some ⟨f8, 0, none⟩) y.gr.length y.gr.length) ∧ v.cell? ⟨Y, 2, none⟩ = some (.slice (some ⟨g8, 0, none⟩) y.ev.length y.ev.length) ∧ v.cell? ⟨Y, 3, none⟩ = some (.slice (some ⟨h8, 0, none⟩) y.ks.length y.ks.length) ∧ v.cell? ⟨Y, 4, none⟩ = some (.slice (some ⟨i8, 0, none⟩) y.fi.length y.fi.length))) (go_keep)
    (first
    | (go_at_call 6; refine (toEng_any y q _ (h'.below b012d) hn2).mono ?_; rintro e w13 ⟨e13, f13, g13, h13, i13, rfl, hr13, hb13⟩; obtain ⟨r0, r1, r2, r3, r4⟩ := (hY12d.below hb13).fiveO; obtain ⟨s0, s1, s2, s3, s4⟩ := (hB12d.below hb13).fiveN)
    | (go_at_call 8; refine (eqEng_any y y (xaOf y e8 f8 g8 h8 i8) (xaOf y e13 f13 g13 h13 i13) _ (N8f.below hb13) hr13.in).mono ?_; rintro e w14 ⟨rfl, hb14⟩; obtain ⟨t0, t1, t2, t3, t4⟩ := ((hY12d.below hb13).below hb14).fiveO; obtain ⟨u0, u1, u2, u3, u4⟩ := ((hB12d.below hb13).below hb14).fiveN))
  have b013 := b012d.trans (hb13.mono b012d.size)
  have b014 := b013.trans (hb14.mono b013.size)
  go_wp2
  go_ret
  exact ⟨rfl, b014⟩

set_option maxRecDepth 100000 in
theorem lifted (os : Os) (started : os.Started) (H : Type) (enc : TypeId × Value → H) :
    ReturnsInHanded {} Try.checked os 3 .any (Rows.fnExactEngSameSpec.pre6 enc Try.prog Try.f3 Rows.fnExactEngSameRow.domain false) (Rows.fnExactEngSameSpec.post enc Try.prog Try.f3 false true false false) := by
  refine returnsInHanded_of_change (C := Try.checked) own started (by kernel_rfl) Try.func3
    (ChangeSpec.witness6 (enc := enc) (C := Try.checked) false ⟨#[], #[.agg #[.slice none 0 0, .slice none 0 0, .slice none 0 0, .slice none 0 0, .slice none 0 0], .agg #[.slice none 0 0, .slice none 0 0, .slice none 0 0, .slice none 0 0, .slice none 0 0]], []⟩ 8 (by kernel_rfl) (by kernel_rfl) (by kernel_rfl) (by kernel_rfl)) ?_
  intro W base args ds gs before hval0 hW hcnd _
  have hval : ∀ (j : Nat) t v, Try.f3.params[j]? = some t → args[j]? = some v → Value.okWide Try.prog W .any base t v := hval0
  have hW' := hW
  obtain ⟨p, q, hA0, hV, rfl, hfz, hnd⟩ := hW
  have hA : DataW.TrodAll enc Try.prog W 0 (fun _ => true) true Try.f3.params.toList args.toList ds p := hA0
  rw [Try.params3] at hA hval
  obtain ⟨v0, vs0, d0, ds0, p0, q0, hargs, rfl, rfl, h0, r0⟩ := trodAll_cons hA
  obtain ⟨v1, vs1, d1, ds1, p1, q1, rfl, rfl, rfl, h1, r1⟩ := trodAll_cons r0
  obtain ⟨rfl, rfl, rfl⟩ := trodAll_nil r1
  obtain rfl : args = #[v0, v1] := by cases args; simp_all
  obtain ⟨rfl, rfl⟩ := trodVars_none hV
  have k0 := h0
  have lt0 : ∀ x ∈ p0, x.block < W.heap.size := by obtain ⟨m, hm⟩ := k0; exact DataW.trod_lt m _ _ _ hm
  have k1 := h1
  have lt1 : ∀ x ∈ p1, x.block < W.heap.size := by obtain ⟨m, hm⟩ := k1; exact DataW.trod_lt m _ _ _ hm
  obtain ⟨x0, pa0, rfl, e0, f0⟩ := open_eng (hval 0 28 v0 rfl rfl) h0
  obtain ⟨x1, pa1, rfl, e1, f1⟩ := open_eng (hval 1 28 v1 rfl rfl) h1
  clear hA0 hval0
  refine (walk x0 pa0 x1 pa1 W e0 f0 e1 f1).mono fun e W' ⟨he, bel⟩ => ?_
  subst he
  exact ⟨_, rfl, _, _, _, [], _, [], hW', trodAll_mk1 (shut_bool Try.underlying4 _), (trodAll_cons_mk (Below.trod laidOut (by kernel_rfl) (of_decide_eq_true (by kernel_rfl)) k0 bel lt0) (trodAll_cons_mk (Below.trod laidOut (by kernel_rfl) (of_decide_eq_true (by kernel_rfl)) k1 bel lt1) trodAll_mk0)), rfl, bel.frame _, fun h => by cases h⟩

theorem over : Rows.fnExactEngSameRow.holds Try.pinned (OpenSpec.ofChange Rows.fnExactEngSameSpec) :=
  OpenClaim.holds_of_wide 3 Try.f3 rfl rfl rfl rfl rfl rfl rfl ⟨rfl, rfl, rfl, rfl, rfl⟩ rfl rfl rfl rfl rfl (by kernel_rfl) Try.func3 (by kernel_rfl)
    (of_decide_eq_true (by kernel_rfl)) (by unfold Func.isWrapper; first | (rw [if_pos (by decide +kernel)]; kernel_rfl) | (rw [if_neg (by decide +kernel)]; exact ⟨rfl, rfl⟩))
    (fun os started H enc _ => lifted os started H enc)
end Go.Proofs.Ythlddehmebgfoaa.fnExactEngSame
namespace Go.Proofs.Ythlddehmebgfoaa
theorem fnExactEngSame_holds : Rows.FnExactEngSameSaid := fnExactEngSame.over
#print axioms fnExactEngSame_holds
end Go.Proofs.Ythlddehmebgfoaa

