/- At everything that is looked for, twice, the program's ExSame answers as the specification's; the arguments read afterwards as before. No condition. -/
import Derived.Test.YthmfjckghjgblaaExBox
import Derived.Test.YthmfjckghjgblaaExE4
namespace Go.Proofs.Ythmfjckghjgblaa.fnExactExSame
open Go.ChangeShapes Go.WideShapes Go.ChangeAt Go.RowKit
set_option linter.unusedVariables false
set_option maxRecDepth 4000

set_option maxHeartbeats 4000000 in
theorem walk (kd sy n : Int) (a : Option Addr) (cap : Nat) (F : Fo) (kd' sy' n' : Int) (a' : Option Addr) (cap' : Nat) (F' : Fo) (w : World) (h : Slc w a F) (h' : Slc w a' F') :
    Calls Try.prog 3 #[.agg #[.int .i64 kd, .int .i64 sy, .int .i64 n, .slice a F.len cap], .agg #[.int .i64 kd', .int .i64 sy', .int .i64 n', .slice a' F'.len cap']] w fun e w' => e = .returned (.bool true) ∧ Below w.heap.size w w' := by
  have hA00 := box_new w (.int .i64 kd) (.int .i64 sy) (.int .i64 n) (.slice a F.len cap) 24
  have hB00 := box_new (w.alloc (.cells #[.int .i64 kd, .int .i64 sy, .int .i64 n, .slice a F.len cap] 24)) (.int .i64 kd') (.int .i64 sy') (.int .i64 n') (.slice a' F'.len cap') 24
  have b000 := below_new w (.cells #[.int .i64 kd, .int .i64 sy, .int .i64 n, .slice a F.len cap] 24)
  have b001 := below_new (w.alloc (.cells #[.int .i64 kd, .int .i64 sy, .int .i64 n, .slice a F.len cap] 24)) (.cells #[.int .i64 kd', .int .i64 sy', .int .i64 n', .slice a' F'.len cap'] 24)
  obtain ⟨w0, hw0⟩ : ∃ w0, (w.alloc (.cells #[.int .i64 kd, .int .i64 sy, .int .i64 n, .slice a F.len cap] 24)).alloc (.cells #[.int .i64 kd', .int .i64 sy', .int .i64 n', .slice a' F'.len cap'] 24) = w0 := ⟨_, rfl⟩
  have hA0 := hA00.below b001
  have b00 := b000.trans (b001.mono b000.size)
  rw [hw0] at hA0 hB00 b00
  rw [World.size_alloc] at hB00
  obtain ⟨p0, p1, p2, p3⟩ := hA0.cells
  obtain ⟨q0, q1, q2, q3⟩ := hB00.cells
  by_cases hbig : F.size ≤ 1048576
  · have hif : szLeft 1048576 F.size = 1048576 - (F.size : Int) := if_neg (by omega)
    have hge : ¬ (1048576 - (F.size : Int) < 0) := by omega
    by_cases hbig2 : F.size + F'.size ≤ 1048576
    · have hif2 : szLeft (1048576 - F.size) F'.size = 1048576 - (F.size : Int) - (F'.size : Int) := if_neg (by omega)
      have hge2 : ¬ (1048576 - (F.size : Int) - (F'.size : Int) < 0) := by omega
      have hbig' : F'.size ≤ 1048576 := by omega
      go_enter Try.func3, Try.ntmps3
      go_wp2_with fail
      refine (szEx_any kd sy n a cap F _ _ (h.below b00) (by omega) (by omega)).mono ?_
      rintro e w1 ⟨rfl, hb1⟩
      rw [hif]
      clear hif p0 p1 p2 p3 q0 q1 q2 q3 hw0
      have b01 := b00.trans (hb1.mono b00.size)
      have hA1 := hA0.below hb1
      have hB1 := hB00.below hb1
      obtain ⟨q0, q1, q2, q3⟩ := hB1.cells
      go_wp2_with fail
      refine (szEx_any kd' sy' n' a' cap' F' _ _ (h'.below b01) (by omega) (by omega)).mono ?_
      rintro e w2 ⟨rfl, hb2⟩
      rw [hif2]
      clear hif2 q0 q1 q2 q3
      have b02 := b01.trans (hb2.mono b01.size)
      have hA2 := hA1.below hb2
      have hB2 := hB1.below hb2
      have hA2d : Box4 w2.drew w.heap.size (.int .i64 kd) (.int .i64 sy) (.int .i64 n) (.slice a F.len cap) := hA2
      have hB2d : Box4 w2.drew (w.heap.size + 1) (.int .i64 kd') (.int .i64 sy') (.int .i64 n') (.slice a' F'.len cap') := hB2
      have b02d := b02.drew
      obtain ⟨p0, p1, p2, p3⟩ := hA2.cells
      obtain ⟨q0, q1, q2, q3⟩ := hB2.cells
      go_wp2_with fail
      go_region_held (fun v => (v.cell? ⟨w.heap.size, 0, none⟩ = some (.int .i64 kd) ∧ v.cell? ⟨w.heap.size, 1, none⟩ = some (.int .i64 sy) ∧ v.cell? ⟨w.heap.size, 2, none⟩ = some (.int .i64 n) ∧ v.cell? ⟨w.heap.size, 3, none⟩ = some (.slice a F.len cap)) ∧ (v.cell? ⟨(w.heap.size + 1), 0, none⟩ = some (.int .i64 kd') ∧ v.cell? ⟨(w.heap.size + 1), 1, none⟩ = some (.int .i64 sy') ∧ v.cell? ⟨(w.heap.size + 1), 2, none⟩ = some (.int .i64 n') ∧ v.cell? ⟨(w.heap.size + 1), 3, none⟩ = some (.slice a' F'.len cap'))) (go_keep)
        (first
        | (go_at_call_of 6 (Fo.len F); refine (toEx_any kd sy n a cap F _ (h.below b02d) hbig).mono ?_; rintro e w3 ⟨b3, S3, rfl, hr3, hb3⟩; obtain ⟨r0, r1, r2, r3⟩ := (hA2d.below hb3).cells; obtain ⟨s0, s1, s2, s3⟩ := (hB2d.below hb3).cells)
        | (go_at_call_of 6 (Fo.len F'); refine (toEx_any kd' sy' n' a' cap' F' _ (h'.below (b02d.trans (hb3.mono b02d.size))) hbig').mono ?_; rintro e w4 ⟨b4, S4, rfl, hr4, hb4⟩; obtain ⟨r0, r1, r2, r3⟩ := ((hA2d.below hb3).below hb4).cells; obtain ⟨s0, s1, s2, s3⟩ := ((hB2d.below hb3).below hb4).cells)
        | (go_at_call 5; refine (specExSame_any F.size F (Nat.le_refl _) F' kd sy n kd' sy' n' _ _ _ _ _ (hr3.slc.below hb4) hr4.slc).mono ?_; rintro e w5 ⟨rfl, hb5⟩; obtain ⟨r0, r1, r2, r3⟩ := (((hA2d.below hb3).below hb4).below hb5).cells; obtain ⟨s0, s1, s2, s3⟩ := (((hB2d.below hb3).below hb4).below hb5).cells))
      have b03 := b02d.trans (hb3.mono b02d.size)
      have b04 := b03.trans (hb4.mono b03.size)
      have b05 := b04.trans (hb5.mono b04.size)
      have hA5 := ((hA2d.below hb3).below hb4).below hb5
      have hB5 := ((hB2d.below hb3).below hb4).below hb5
      clear p0 p1 p2 p3 q0 q1 q2 q3
      obtain ⟨p0, p1, p2, p3⟩ := hA5.cells
      obtain ⟨q0, q1, q2, q3⟩ := hB5.cells
      go_wp2_with fail
      refine (toEx_any kd sy n a cap F _ (h.below b05) hbig).mono ?_
      rintro e w6 ⟨b6, S6, rfl, hr6, hb6⟩
      have b06 := b05.trans (hb6.mono b05.size)
      have hA6 := hA5.below hb6
      have hB6 := hB5.below hb6
      clear p0 p1 p2 p3 q0 q1 q2 q3
      obtain ⟨w7, hw7⟩ : ∃ w7, w6.alloc (.cells #[.int .i64 kd, .int .i64 sy, .int .i64 n, .slice (some ⟨b6, 0, none⟩) F.len F.len] 29) = w7 := ⟨_, rfl⟩
      have hX7 := box_new w6 (.int .i64 kd) (.int .i64 sy) (.int .i64 n) (.slice (some ⟨b6, 0, none⟩) F.len F.len) 29
      have hb7 := below_new w6 (.cells #[.int .i64 kd, .int .i64 sy, .int .i64 n, .slice (some ⟨b6, 0, none⟩) F.len F.len] 29)
      rw [hw7] at hX7 hb7
      have hA7 := hA6.below hb7
      have hB7 := hB6.below hb7
      have b07 := b06.trans (hb7.mono b06.size)
      obtain ⟨q0, q1, q2, q3⟩ := hB7.cells
      go_wp2_with fail
      refine (toEx_any kd' sy' n' a' cap' F' _ (h'.below b07) hbig').mono ?_
      rintro e w8 ⟨b8, S8, rfl, hr8, hb8⟩
      have b08 := b07.trans (hb8.mono b07.size)
      have hA8 := hA7.below hb8
      have hB8 := hB7.below hb8
      have hX8 := hX7.below hb8
      clear q0 q1 q2 q3 hw7
      obtain ⟨w9, hw9⟩ : ∃ w9, w8.alloc (.cells #[.int .i64 kd', .int .i64 sy', .int .i64 n', .slice (some ⟨b8, 0, none⟩) F'.len F'.len] 29) = w9 := ⟨_, rfl⟩
      have hY9 := box_new w8 (.int .i64 kd') (.int .i64 sy') (.int .i64 n') (.slice (some ⟨b8, 0, none⟩) F'.len F'.len) 29
      have hb9 := below_new w8 (.cells #[.int .i64 kd', .int .i64 sy', .int .i64 n', .slice (some ⟨b8, 0, none⟩) F'.len F'.len] 29)
      rw [hw9] at hY9 hb9
      have hA9 := hA8.below hb9
      have hB9 := hB8.below hb9
      have hX9 := hX8.below hb9
      have b09 := b08.trans (hb9.mono b08.size)
      obtain ⟨p0, p1, p2, p3⟩ := hX9.cells
      obtain ⟨q0, q1, q2, q3⟩ := hY9.cells
      have b69 := (hb7.trans (hb8.mono hb7.size))
      have b69 := b69.trans (hb9.mono b69.size)
      go_wp2_with fail
      refine (implExSame_any kd sy n kd' sy' n' b6 _ S6 F _ _ F' _ (hr6.below b69) (hr8.slc.below hb9) hbig).mono ?_
      rintro e w10 ⟨rfl, hb10⟩
      have b010 := b09.trans (hb10.mono b09.size)
      have b610 := b69.trans (hb10.mono b69.size)
      have b810 := hb9.trans (hb10.mono hb9.size)
      have hA10 := hA9.below hb10
      have hB10 := hB9.below hb10
      have hX10 := hX9.below hb10
      have hY10 := hY9.below hb10
      clear p0 p1 p2 p3 q0 q1 q2 q3 hw9
      obtain ⟨p0, p1, p2, p3⟩ := hA10.cells
      obtain ⟨q0, q1, q2, q3⟩ := hX10.cells
      have hA10d : Box4 w10.drew w.heap.size (.int .i64 kd) (.int .i64 sy) (.int .i64 n) (.slice a F.len cap) := hA10
      have hX10d : Box4 w10.drew w6.heap.size (.int .i64 kd) (.int .i64 sy) (.int .i64 n) (.slice (some ⟨b6, 0, none⟩) F.len F.len) := hX10
      have hB10d : Box4 w10.drew (w.heap.size + 1) (.int .i64 kd') (.int .i64 sy') (.int .i64 n') (.slice a' F'.len cap') := hB10
      have hY10d : Box4 w10.drew w8.heap.size (.int .i64 kd') (.int .i64 sy') (.int .i64 n') (.slice (some ⟨b8, 0, none⟩) F'.len F'.len) := hY10
      have b010d := b010.drew
      have b610d := b610.drew
      have b810d := b810.drew
      have hself := eqX_self kd sy n F
      have hself' := eqX_self kd' sy' n' F'
      go_wp2_with fail
      go_region_held (fun v => (v.cell? ⟨w.heap.size, 0, none⟩ = some (.int .i64 kd) ∧ v.cell? ⟨w.heap.size, 1, none⟩ = some (.int .i64 sy) ∧ v.cell? ⟨w.heap.size, 2, none⟩ = some (.int .i64 n) ∧ v.cell? ⟨w.heap.size, 3, none⟩ = some (.slice a F.len cap)) ∧ (v.cell? ⟨w6.heap.size, 0, none⟩ = some (.int .i64 kd) ∧ v.cell? ⟨w6.heap.size, 1, none⟩ = some (.int .i64 sy) ∧ v.cell? ⟨w6.heap.size, 2, none⟩ = some (.int .i64 n) ∧ v.cell? ⟨w6.heap.size, 3, none⟩ = some (.slice (some ⟨b6, 0, none⟩) F.len F.len))) (go_keep)
        (first
        | (go_at_call 6; refine (toEx_any kd sy n a cap F _ (h.below b010d) hbig).mono ?_; rintro e w11 ⟨b11, S11, rfl, hr11, hb11⟩; obtain ⟨r0, r1, r2, r3⟩ := (hX10d.below hb11).cells; obtain ⟨s0, s1, s2, s3⟩ := (hA10d.below hb11).cells)
        | (go_at_call 8; refine (eqEx_any kd sy n _ _ F kd sy n _ _ F _ (hr6.slc.below (b610d.trans (hb11.mono b610d.size))) hr11.slc).mono ?_; rintro e w12 ⟨rfl, hb12⟩; obtain ⟨t0, t1, t2, t3⟩ := ((hX10d.below hb11).below hb12).cells; obtain ⟨u0, u1, u2, u3⟩ := ((hA10d.below hb11).below hb12).cells))
      have b011 := b010d.trans (hb11.mono b010d.size)
      have b012 := b011.trans (hb12.mono b011.size)
      have b811 := b810d.trans (hb11.mono b810d.size)
      have b812 := b811.trans (hb12.mono b811.size)
      have hB12 := (hB10d.below hb11).below hb12
      have hY12 := (hY10d.below hb11).below hb12
      clear p0 p1 p2 p3 q0 q1 q2 q3
      obtain ⟨p0, p1, p2, p3⟩ := hB12.cells
      obtain ⟨q0, q1, q2, q3⟩ := hY12.cells
      have hB12d : Box4 w12.drew (w.heap.size + 1) (.int .i64 kd') (.int .i64 sy') (.int .i64 n') (.slice a' F'.len cap') := hB12
      have hY12d : Box4 w12.drew w8.heap.size (.int .i64 kd') (.int .i64 sy') (.int .i64 n') (.slice (some ⟨b8, 0, none⟩) F'.len F'.len) := hY12
      have b012d := b012.drew
      have b812d := b812.drew
      go_wp2_with fail
      go_region_held (fun v => (v.cell? ⟨(w.heap.size + 1), 0, none⟩ = some (.int .i64 kd') ∧ v.cell? ⟨(w.heap.size + 1), 1, none⟩ = some (.int .i64 sy') ∧ v.cell? ⟨(w.heap.size + 1), 2, none⟩ = some (.int .i64 n') ∧ v.cell? ⟨(w.heap.size + 1), 3, none⟩ = some (.slice a' F'.len cap')) ∧ (v.cell? ⟨w8.heap.size, 0, none⟩ = some (.int .i64 kd') ∧ v.cell? ⟨w8.heap.size, 1, none⟩ = some (.int .i64 sy') ∧ v.cell? ⟨w8.heap.size, 2, none⟩ = some (.int .i64 n') ∧ v.cell? ⟨w8.heap.size, 3, none⟩ = some (.slice (some ⟨b8, 0, none⟩) F'.len F'.len))) (go_keep)
        (first
        | (go_at_call 6; refine (toEx_any kd' sy' n' a' cap' F' _ (h'.below b012d) hbig').mono ?_; rintro e w13 ⟨b13, S13, rfl, hr13, hb13⟩; obtain ⟨r0, r1, r2, r3⟩ := (hY12d.below hb13).cells; obtain ⟨s0, s1, s2, s3⟩ := (hB12d.below hb13).cells)
        | (go_at_call 8; refine (eqEx_any kd' sy' n' _ _ F' kd' sy' n' _ _ F' _ (hr8.slc.below (b812d.trans (hb13.mono b812d.size))) hr13.slc).mono ?_; rintro e w14 ⟨rfl, hb14⟩; obtain ⟨t0, t1, t2, t3⟩ := ((hY12d.below hb13).below hb14).cells; obtain ⟨u0, u1, u2, u3⟩ := ((hB12d.below hb13).below hb14).cells))
      have b013 := b012d.trans (hb13.mono b012d.size)
      have b014 := b013.trans (hb14.mono b013.size)
      go_wp2
      go_ret
      exact ⟨rfl, b014⟩
    · have hif2 : szLeft (1048576 - F.size) F'.size = -1 := if_pos (by omega)
      go_enter Try.func3, Try.ntmps3
      go_wp2_with fail
      refine (szEx_any kd sy n a cap F _ _ (h.below b00) (by omega) (by omega)).mono ?_
      rintro e w1 ⟨rfl, hb1⟩
      rw [hif]
      clear hif p0 p1 p2 p3 q0 q1 q2 q3 hw0
      have b01 := b00.trans (hb1.mono b00.size)
      have hB1 := hB00.below hb1
      obtain ⟨q0, q1, q2, q3⟩ := hB1.cells
      go_wp2_with fail
      refine (szEx_any kd' sy' n' a' cap' F' _ _ (h'.below b01) (by omega) (by omega)).mono ?_
      rintro e w2 ⟨rfl, hb2⟩
      rw [hif2]
      clear hif2 q0 q1 q2 q3
      go_wp2
      go_ret
      exact ⟨rfl, b01.trans (hb2.mono b01.size)⟩
  · have hif : szLeft 1048576 F.size = -1 := if_pos (by omega)
    go_enter Try.func3, Try.ntmps3
    go_wp2_with fail
    refine (szEx_any kd sy n a cap F _ _ (h.below b00) (by omega) (by omega)).mono ?_
    rintro e w1 ⟨rfl, hb1⟩
    rw [hif]
    clear hif
    go_wp2
    go_ret
    exact ⟨rfl, b00.trans (hb1.mono b00.size)⟩

set_option maxRecDepth 100000 in
theorem lifted (os : Os) (started : os.Started) (H : Type) (enc : TypeId × Value → H) :
    ReturnsInHanded {} Try.checked os 3 .any (Rows.fnExactExSameSpec.pre6 enc Try.prog Try.f3 Rows.fnExactExSameRow.domain false) (Rows.fnExactExSameSpec.post enc Try.prog Try.f3 false true false false) := by
  refine returnsInHanded_of_change (C := Try.checked) own started (by kernel_rfl) Try.func3
    (ChangeSpec.witness6 (enc := enc) (C := Try.checked) false ⟨#[], #[.agg #[.int .i64 0, .int .i64 0, .int .i64 0, .slice none 0 0], .agg #[.int .i64 0, .int .i64 0, .int .i64 0, .slice none 0 0]], []⟩ 8 (by kernel_rfl) (by kernel_rfl) (by kernel_rfl) (by kernel_rfl)) ?_
  intro W base args ds gs before hval0 hW hcnd _
  have hval : ∀ (j : Nat) t v, Try.f3.params[j]? = some t → args[j]? = some v → Value.okWide Try.prog W .any base t v := hval0
  have hW' := hW
  obtain ⟨p, q, hA0, hV, rfl, hfz, hnd⟩ := hW
  have hA : DataW.TrodAll enc Try.prog W 0 (fun _ => true) true Try.f3.params.toList args.toList ds p := hA0
  rw [Try.params3] at hA hval
  obtain ⟨v0, vs0, d0, ds0, p0, q0, hargs, rfl, rfl, h0, r0⟩ := trodAll_cons hA
  obtain ⟨v1, vs1, d1, ds1, p1, q1, rfl, rfl, rfl, h1, r1⟩ := trodAll_cons r0
  obtain ⟨rfl, rfl, rfl⟩ := trodAll_nil r1
  obtain rfl : args = #[v0, v1] := by cases args; simp_all
  obtain ⟨rfl, rfl⟩ := trodVars_none hV
  have k0 := h0
  have lt0 : ∀ x ∈ p0, x.block < W.heap.size := by obtain ⟨m, hm⟩ := k0; exact DataW.trod_lt m _ _ _ hm
  have k1 := h1
  have lt1 : ∀ x ∈ p1, x.block < W.heap.size := by obtain ⟨m, hm⟩ := k1; exact DataW.trod_lt m _ _ _ hm
  obtain ⟨kd0, sy0, n0, a0, cap0, F0, rfl, e0⟩ := open_ex (hval 0 24 v0 rfl rfl) h0
  obtain ⟨kd1, sy1, n1, a1, cap1, F1, rfl, e1⟩ := open_ex (hval 1 24 v1 rfl rfl) h1
  clear hA0 hval0
  refine (walk kd0 sy0 n0 a0 cap0 F0 kd1 sy1 n1 a1 cap1 F1 W e0 e1).mono fun e W' ⟨he, bel⟩ => ?_
  subst he
  exact ⟨_, rfl, _, _, _, [], _, [], hW', trodAll_mk1 (shut_bool Try.underlying4 _), (trodAll_cons_mk (Below.trod laidOut (by kernel_rfl) (of_decide_eq_true (by kernel_rfl)) k0 bel lt0) (trodAll_cons_mk (Below.trod laidOut (by kernel_rfl) (of_decide_eq_true (by kernel_rfl)) k1 bel lt1) trodAll_mk0)), rfl, bel.frame _, fun h => by cases h⟩

theorem over : Rows.fnExactExSameRow.holds Try.pinned (OpenSpec.ofChange Rows.fnExactExSameSpec) :=
  OpenClaim.holds_of_wide 3 Try.f3 rfl rfl rfl rfl rfl rfl rfl ⟨rfl, rfl, rfl, rfl, rfl⟩ rfl rfl rfl rfl rfl (by kernel_rfl) Try.func3 (by kernel_rfl)
    (of_decide_eq_true (by kernel_rfl)) (by unfold Func.isWrapper; first | (rw [if_pos (by decide +kernel)]; kernel_rfl) | (rw [if_neg (by decide +kernel)]; exact ⟨rfl, rfl⟩))
    (fun os started H enc _ => lifted os started H enc)
end Go.Proofs.Ythmfjckghjgblaa.fnExactExSame
namespace Go.Proofs.Ythmfjckghjgblaa
theorem fnExactExSame_holds : Rows.FnExactExSameSaid := fnExactExSame.over
#print axioms fnExactExSame_holds
end Go.Proofs.Ythmfjckghjgblaa

