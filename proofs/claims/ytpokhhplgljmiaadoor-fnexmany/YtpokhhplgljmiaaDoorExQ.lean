/- What (*exWalk).part does with a part that is none: it panics. -/
import Derived.Test.YtpokhhplgljmiaaDoorExP
namespace Go.Proofs.YtpokhhplgljmiaaDoor
open Go.ChangeShapes Go.WideShapes Go.ChangeAt Go.RowKit
set_option linter.unusedVariables false

set_option maxRecDepth 4000 in
set_option maxHeartbeats 4000000 in
theorem part_bad (w0 A : World) (Bw l : Nat) (m : Nat) (t : TypeId) (v : Value) (J : List Hd → World → Prop) (pre : List Hd) (hE : ErrAt w0 t v) (hBw : w0.heap.size ≤ Bw) (hJ : Abides Bw J) (hj : J pre A) (hb : Below w0.heap.size w0 A) (hw : Walk A Bw l m) (hm : m ≤ 12)
    (D kd sy n : Int) (a : Option Addr) (cap : Nat) (F : Fo) (hno : ¬ (m + 1 ≤ 12 ∧ D ≤ 5 ∧ headB kd sy n F.len = true)) :
    Calls Tryd.prog 41 #[.pointer (some ⟨Bw, 0, none⟩), .agg #[.int .i64 kd, .int .i64 sy, .int .i64 n, .slice a F.len cap], .int .i64 D] A fun e A' =>
      e = .panicked [{ v := .iface t v, recovered := false }] ∧ Below w0.heap.size w0 A' ∧ J pre A' := by
  obtain ⟨W1, hW1⟩ : ∃ W1, (A.setCell ⟨Bw, 1, none⟩ (.int .i64 ((m : Int) + 1))).alloc (.cells #[.int .i64 kd, .int .i64 sy, .int .i64 n, .slice a F.len cap] 25) = W1 := ⟨_, rfl⟩
  obtain ⟨⟨j1, b1, k1, e1⟩, ⟨c0, c1, c2, c3⟩, hlt⟩ := part_start (.int .i64 kd) (.int .i64 sy) (.int .i64 n) (.slice a F.len cap) 25 hE hBw hJ hj hb hw hW1
  obtain ⟨y0, y1, y2, y3⟩ := hw.cells
  obtain ⟨z0, z1, z2, z3⟩ := k1.cells
  have a1 := fun u : After W1 => u.cell z1 z3
  have a2 := fun u : After W1 => u.cell c3 hlt
  have a30 := fun u : After W1 => u.cell c0 hlt
  have a31 := fun u : After W1 => u.cell c1 hlt
  have a32 := fun u : After W1 => u.cell c2 hlt
  rcases kindOf_any kd W1 t v e1 with ⟨hk1, hk7, T, V, K1, K2, hK, hcall⟩ | ⟨hk, hcall⟩
  · have m1 := hK.kids
    have m2 := hK.fits
    have m3 := hK.enter1
    have m4 := hK.enter2
    have hkc := hK.kids_any
    have hfc := fun s w => hK.fits_any sy n s w
    by_cases h12 : 12 < (m : Int) + 1
    · have bm : decide (12 < (m : Int) + 1) = true := by simpa using h12
      go_enter Tryd.func41, Tryd.ntmps41
      go_wp2_with fail
      refine (hcall _).mono ?_
      rintro e w1 ⟨rfl, rfl⟩
      go_wp2_with fail
      have hany := after_any
      refine wp_region_after (by kernel_rfl) (by kernel_rfl) ?_
      repeat (go_big_quiet_step ((first | refine calls_after (hkc _) | refine calls_after (hfc _ _))))
      refine wpQuiet_nil ?_
      intro w2 hu
      have hb2 := after_of hu
      have g2 : w2.cell? ⟨0, 0, none⟩ = some (.iface t v) := e1.below hb2
      clear hu
      go_wp2
      exact ⟨rfl, rfl, b1.trans (hb2.mono b1.size), hJ.below _ _ _ j1 hb2⟩
    have bm : decide (12 < (m : Int) + 1) = false := by simpa using h12
    by_cases hD : 5 < D
    · have bd : decide (5 < D) = true := by simpa using hD
      go_enter Tryd.func41, Tryd.ntmps41
      go_wp2_with fail
      refine (hcall _).mono ?_
      rintro e w1 ⟨rfl, rfl⟩
      go_wp2_with fail
      have hany := after_any
      refine wp_region_after (by kernel_rfl) (by kernel_rfl) ?_
      repeat (go_big_quiet_step ((first | refine calls_after (hkc _) | refine calls_after (hfc _ _))))
      refine wpQuiet_nil ?_
      intro w2 hu
      have hb2 := after_of hu
      have g2 : w2.cell? ⟨0, 0, none⟩ = some (.iface t v) := e1.below hb2
      clear hu
      go_wp2
      exact ⟨rfl, rfl, b1.trans (hb2.mono b1.size), hJ.below _ _ _ j1 hb2⟩
    have bd : decide (5 < D) = false := by simpa using hD
    by_cases hkl : kidsOf kd = (F.len : Int)
    · have bk : ((F.len : Int) != kidsOf kd) = false := by simp [hkl]
      have hf : fitsB kd sy n = false := by
        cases hf : fitsB kd sy n
        · rfl
        · exact absurd ⟨by omega, by omega, (headB_parts _ _ _ _).2 ⟨⟨hk1, hk7⟩, hkl, hf⟩⟩ hno
      rw [hf] at hfc
      clear hkl hno hf
      go_enter Tryd.func41, Tryd.ntmps41
      go_wp2_with fail
      refine (hcall _).mono ?_
      rintro e w1 ⟨rfl, rfl⟩
      go_wp2_with fail
      have hany := after_any
      refine wp_region_after (by kernel_rfl) (by kernel_rfl) ?_
      repeat (go_big_quiet_step ((first | refine calls_after (hkc _) | refine calls_after (hfc _ _))))
      refine wpQuiet_nil ?_
      intro w2 hu
      have hb2 := after_of hu
      have g2 : w2.cell? ⟨0, 0, none⟩ = some (.iface t v) := e1.below hb2
      clear hu
      go_wp2
      exact ⟨rfl, rfl, b1.trans (hb2.mono b1.size), hJ.below _ _ _ j1 hb2⟩
    · have bk : ((F.len : Int) != kidsOf kd) = true := by simp; omega
      clear hkl hno
      go_enter Tryd.func41, Tryd.ntmps41
      go_wp2_with fail
      refine (hcall _).mono ?_
      rintro e w1 ⟨rfl, rfl⟩
      go_wp2_with fail
      have hany := after_any
      refine wp_region_after (by kernel_rfl) (by kernel_rfl) ?_
      repeat (go_big_quiet_step ((first | refine calls_after (hkc _) | refine calls_after (hfc _ _))))
      refine wpQuiet_nil ?_
      intro w2 hu
      have hb2 := after_of hu
      have g2 : w2.cell? ⟨0, 0, none⟩ = some (.iface t v) := e1.below hb2
      clear hu
      go_wp2
      exact ⟨rfl, rfl, b1.trans (hb2.mono b1.size), hJ.below _ _ _ j1 hb2⟩
  · go_enter Tryd.func41, Tryd.ntmps41
    go_wp2_with fail
    refine hcall.mono ?_
    rintro e w1 ⟨rfl, rfl⟩
    go_wp2
    exact ⟨rfl, rfl, b1, j1⟩
end Go.Proofs.YtpokhhplgljmiaaDoor
