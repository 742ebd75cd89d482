/- At every place the program's OccOk answers as the specification's; the place reads afterwards as before. No condition. -/
import Derived.Test.YtgmglammengghaaOcc2
import Derived.Test.YtgmglammengghaaOccBox
namespace Go.Proofs.Ytgmglammengghaa.fnExactOccOk
open Go.ChangeShapes Go.WideShapes Go.ChangeAt Go.RowKit
set_option linter.unusedVariables false

set_option maxHeartbeats 1000000 in
theorem walk (a : Option Addr) (cap : Nat) (o : Occ) (w : World) (h : Ints w a o.ids) (hf : o.Wf) :
    Calls Try.prog 3 #[.agg #[.int .i64 o.fr, .int .i64 o.tl, .slice a o.ids.length cap]] w fun e w' => e = .returned (.bool true) ∧ Below w.heap.size w w' := by
  obtain ⟨f, t, l⟩ := o
  simp only at h ⊢
  have hlen := h.len
  have hA0 := box3_new w (.int .i64 f) (.int .i64 t) (.slice a l.length cap) 24
  have b00 := oBelow_new w (.cells #[.int .i64 f, .int .i64 t, .slice a l.length cap] 24)
  obtain ⟨w0, hw0⟩ : ∃ w0, w.alloc (.cells #[.int .i64 f, .int .i64 t, .slice a l.length cap] 24) = w0 := ⟨_, rfl⟩
  rw [hw0] at hA0 b00
  by_cases hbig : l.length ≤ 1048576
  · have hz : szDown 1048576 l.length = 1048576 - l.length := if_neg (by omega)
    have hge : ¬ (1048576 - (l.length : Int) < 0) := by omega
    obtain ⟨p0, p1, p2⟩ := hA0.cells
    go_enter Try.func3, Try.ntmps3
    go_wp2_with fail
    refine (szOcc_any f t a l.length cap _ _ hlen (by omega) (by omega)).mono ?_
    rintro e w1 ⟨rfl, hb1⟩
    rw [hz]
    clear hz p0 p1 p2
    have b01 := b00.trans (hb1.mono b00.size)
    have hA1 := hA0.below hb1
    obtain ⟨p0, p1, p2⟩ := hA1.cells
    go_wp2_with fail
    refine (toOcc_any f t a cap l _ (h.below b01) hbig).mono ?_
    rintro e w2 ⟨c2, rfl, hr2, hg2, hl2, hb2⟩
    have b02 := b01.trans (hb2.mono b01.size)
    clear p0 p1 p2
    go_wp2_with fail
    refine (specOccOk_any f t _ _ l _ (hr2.ints hlen)).mono ?_
    rintro e w3 ⟨rfl, hb3⟩
    have b03 := b02.trans (hb3.mono b02.size)
    have hA3 := (hA1.below hb2).below hb3
    obtain ⟨p0, p1, p2⟩ := hA3.cells
    go_wp2_with fail
    refine (toOcc_any f t a cap l _ (h.below b03) hbig).mono ?_
    rintro e w4 ⟨c4, rfl, hr4, hg4, hl4, hb4⟩
    have b04 := b03.trans (hb4.mono b03.size)
    have hA4 := hA3.below hb4
    clear p0 p1 p2
    obtain ⟨w5, hw5⟩ : ∃ w5, w4.alloc (.cells #[.int .i64 f, .int .i64 t, .slice (some ⟨c4, 0, none⟩) l.length l.length] 27) = w5 := ⟨_, rfl⟩
    have hX5 := box3_new w4 (.int .i64 f) (.int .i64 t) (.slice (some ⟨c4, 0, none⟩) l.length l.length) 27
    have hb5 := oBelow_new w4 (.cells #[.int .i64 f, .int .i64 t, .slice (some ⟨c4, 0, none⟩) l.length l.length] 27)
    rw [hw5] at hX5 hb5
    have hA5 := hA4.below hb5
    have b05 := b04.trans (hb5.mono b04.size)
    obtain ⟨q0, q1, q2⟩ := hX5.cells
    go_wp2_with fail
    refine (implOccOk_any f t _ _ l _ ((hr4.ints hlen).below hb5)).mono ?_
    rintro e w6 ⟨rfl, hb6⟩
    clear q0 q1 q2 hw5
    have b06 := b05.trans (hb6.mono b05.size)
    have hA6 := hA5.below hb6
    have hX6 := hX5.below hb6
    have b46 := hb5.trans (hb6.mono hb5.size)
    obtain ⟨p0, p1, p2⟩ := hA6.cells
    obtain ⟨q0, q1, q2⟩ := hX6.cells
    have hX6d : Box3 w6.drew w4.heap.size (.int .i64 f) (.int .i64 t) (.slice (some ⟨c4, 0, none⟩) l.length l.length) := hX6
    have hA6d : Box3 w6.drew w.heap.size (.int .i64 f) (.int .i64 t) (.slice a l.length cap) := hA6
    have b46d := b46.drew
    have b06d := b06.drew
    have hself := occEqB_self f t l
    go_wp2_with fail
    go_region_held (fun v => (v.cell? ⟨w.heap.size, 0, none⟩ = some (.int .i64 f) ∧ v.cell? ⟨w.heap.size, 1, none⟩ = some (.int .i64 t) ∧ v.cell? ⟨w.heap.size, 2, none⟩ = some (.slice a l.length cap)) ∧
        (v.cell? ⟨w4.heap.size, 0, none⟩ = some (.int .i64 f) ∧ v.cell? ⟨w4.heap.size, 1, none⟩ = some (.int .i64 t) ∧ v.cell? ⟨w4.heap.size, 2, none⟩ = some (.slice (some ⟨c4, 0, none⟩) l.length l.length))) (go_keep)
      (first
      | (go_at_call 8; refine (toOcc_any f t a cap l _ (h.below b06d) hbig).mono ?_; rintro e w7 ⟨c7, rfl, hr7, hg7, hl7, hb7⟩; obtain ⟨r0, r1, r2⟩ := (hX6d.below hb7).cells; obtain ⟨s0, s1, s2⟩ := (hA6d.below hb7).cells)
      | (go_at_call 10; refine (eqOcc_any f t _ _ l f t _ _ l _ ((hr4.ints hlen).below (b46d.trans (hb7.mono b46d.size))) (hr7.ints hlen)).mono ?_; rintro e w8 ⟨rfl, hb8⟩; obtain ⟨t0, t1, t2⟩ := ((hX6d.below hb7).below hb8).cells; obtain ⟨u0, u1, u2⟩ := ((hA6d.below hb7).below hb8).cells))
    all_goals have b07 : Below w.heap.size w w7 := b06d.trans (hb7.mono b06d.size)
    all_goals have b08 : Below w.heap.size w w8 := b07.trans (hb8.mono b07.size)
    all_goals clear p0 p1 p2 q0 q1 q2
    all_goals go_wp2
    all_goals go_ret
    all_goals exact ⟨rfl, b08⟩
  · have hz : szDown 1048576 l.length = -1 := if_pos (by omega)
    obtain ⟨p0, p1, p2⟩ := hA0.cells
    go_enter Try.func3, Try.ntmps3
    go_wp2_with fail
    refine (szOcc_any f t a l.length cap _ _ hlen (by omega) (by omega)).mono ?_
    rintro e w1 ⟨rfl, hb1⟩
    rw [hz]
    clear hz
    go_wp2
    go_ret
    exact ⟨rfl, b00.trans (hb1.mono b00.size)⟩

set_option maxRecDepth 100000 in
theorem lifted (os : Os) (started : os.Started) (H : Type) (enc : TypeId × Value → H) :
    ReturnsInHanded {} Try.checked os 3 .any (Rows.fnExactOccOkSpec.pre6 enc Try.prog Try.f3 Rows.fnExactOccOkRow.domain false) (Rows.fnExactOccOkSpec.post enc Try.prog Try.f3 false true false false) := by
  refine returnsInHanded_of_change (C := Try.checked) own started (by kernel_rfl) Try.func3
    (ChangeSpec.witness6 (enc := enc) (C := Try.checked) false ⟨#[], #[.agg #[.int .i64 0, .int .i64 0, .slice none 0 0]], []⟩ 8 (by kernel_rfl) (by kernel_rfl) (by kernel_rfl) (by kernel_rfl)) ?_
  intro W base args ds gs before hval0 hW hcnd _
  have hval : ∀ (j : Nat) t v, Try.f3.params[j]? = some t → args[j]? = some v → Value.okWide Try.prog W .any base t v := hval0
  have hW' := hW
  obtain ⟨p, q, hA0, hV, rfl, hfz, hnd⟩ := hW
  have hA : DataW.TrodAll enc Try.prog W 0 (fun _ => true) true Try.f3.params.toList args.toList ds p := hA0
  rw [Try.params3] at hA hval
  obtain ⟨v0, vs0, d0, ds0, p0, q0, hargs, rfl, rfl, h0, r0⟩ := trodAll_cons hA
  obtain ⟨rfl, rfl, rfl⟩ := trodAll_nil r0
  obtain rfl : args = #[v0] := by cases args; simp_all
  obtain ⟨rfl, rfl⟩ := trodVars_none hV
  have k0 := h0
  have lt0 : ∀ x ∈ p0, x.block < W.heap.size := by obtain ⟨m, hm⟩ := k0; exact DataW.trod_lt m _ _ _ hm
  obtain ⟨a0, cap0, o0, rfl, e0, f0⟩ := open_occ (hval 0 24 v0 rfl rfl) h0
  clear hA0 hval0
  refine (walk a0 cap0 o0 W e0 f0).mono fun e W' ⟨he, bel⟩ => ?_
  subst he
  exact ⟨_, rfl, _, _, _, [], _, [], hW', trodAll_mk1 (shut_bool Try.underlying4 _), (trodAll_cons_mk (Below.trod laidOut (by kernel_rfl) (of_decide_eq_true (by kernel_rfl)) k0 bel lt0) trodAll_mk0), rfl, bel.frame _, fun h => by cases h⟩

theorem over : Rows.fnExactOccOkRow.holds Try.pinned (OpenSpec.ofChange Rows.fnExactOccOkSpec) :=
  OpenClaim.holds_of_wide 3 Try.f3 rfl rfl rfl rfl rfl rfl rfl ⟨rfl, rfl, rfl, rfl, rfl⟩ rfl rfl rfl rfl rfl (by kernel_rfl) Try.func3 (by kernel_rfl)
    (of_decide_eq_true (by kernel_rfl)) (by unfold Func.isWrapper; first | (rw [if_pos (by decide +kernel)]; kernel_rfl) | (rw [if_neg (by decide +kernel)]; exact ⟨rfl, rfl⟩))
    (fun os started H enc _ => lifted os started H enc)
end Go.Proofs.Ytgmglammengghaa.fnExactOccOk
namespace Go.Proofs.Ytgmglammengghaa
theorem fnExactOccOk_holds : Rows.FnExactOccOkSaid := fnExactOccOk.over
#print axioms fnExactOccOk_holds
end Go.Proofs.Ytgmglammengghaa

