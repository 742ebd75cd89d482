/- At every span of lists the program's SpanOk answers as the specification's; the lists read afterwards as before. No condition. -/
import Derived.Test.YtfgbihhbcmpgfaaSpan
namespace Go.Proofs.Ytfgbihhbcmpgfaa.fnExactSpanOk
open Go.ChangeShapes Go.WideShapes Go.ChangeAt Go.RowKit
set_option linter.unusedVariables false

set_option maxHeartbeats 1000000 in
theorem walk (a : Option Addr) (cap : Nat) (l : List Occ) (a' : Option Addr) (cap' : Nat) (l' : List Occ) (w : World) (h : Occs w a l) (hf : ∀ o ∈ l, o.Wf) (h' : Occs w a' l') (hf' : ∀ o ∈ l', o.Wf) :
    Calls Try.prog 3 #[.agg #[.slice a l.length cap, .slice a' l'.length cap']] w fun e w' => e = .returned (.bool true) ∧ Below w.heap.size w w' := by
  have hA0 := box2_new w (.slice a l.length cap) (.slice a' l'.length cap') 24
  have b00 := oBelow_new w (.cells #[.slice a l.length cap, .slice a' l'.length cap'] 24)
  obtain ⟨w0, hw0⟩ : ∃ w0, w.alloc (.cells #[.slice a l.length cap, .slice a' l'.length cap'] 24) = w0 := ⟨_, rfl⟩
  rw [hw0] at hA0 b00
  obtain ⟨p0, p1⟩ := hA0.cells
  have hse : spanSize l l' = occsSize l + occsSize l' := rfl
  by_cases hbig : spanSize l l' ≤ 1048576
  · have hz : szDown 1048576 (spanSize l l') = 1048576 - (spanSize l l' : Int) := if_neg (by omega)
    have hge : ¬ (1048576 - (spanSize l l' : Int) < 0) := by omega
    have hn : occsSize l ≤ 1048576 := by omega
    have hn' : occsSize l' ≤ 1048576 := by omega
    clear hse
    go_enter Try.func3, Try.ntmps3
    go_wp2_with fail
    refine (szSpan_any _ _ _ _ l l' _ _ (h.below b00) (h'.below b00) (by omega) (by omega)).mono ?_
    rintro e w1 ⟨rfl, hb1⟩
    rw [hz]
    clear hz p0 p1
    have b01 := b00.trans (hb1.mono b00.size)
    have hA1 := hA0.below hb1
    obtain ⟨p0, p1⟩ := hA1.cells
    go_wp2_with fail
    refine (toSpan_any _ _ _ _ l l' _ (h.below b01) (h'.below b01) hn hn').mono ?_
    rintro e w2 ⟨c2, d2, M2, L2, K2, rfl, hL2, hK2, hr2, _, _, hs2, _, hb2⟩
    have b02 := b01.trans (hb2.mono b01.size)
    clear p0 p1
    go_wp2_with fail
    refine (specSpanOk_any _ _ _ _ l l' _ (CopyP.left hr2 hL2) (CopyP.left hs2 hK2)).mono ?_
    rintro e w3 ⟨rfl, hb3⟩
    have b03 := b02.trans (hb3.mono b02.size)
    have hA3 := (hA1.below hb2).below hb3
    obtain ⟨p0, p1⟩ := hA3.cells
    go_wp2_with fail
    refine (toSpan_any _ _ _ _ l l' _ (h.below b03) (h'.below b03) hn hn').mono ?_
    rintro e w4 ⟨c4, d4, M4, L4, K4, rfl, hL4, hK4, hr4, _, _, hs4, _, hb4⟩
    have b04 := b03.trans (hb4.mono b03.size)
    have hA4 := hA3.below hb4
    have ho4 := CopyP.left hr4 hL4
    have hq4 := CopyP.left hs4 hK4
    clear p0 p1
    obtain ⟨w5, hw5⟩ : ∃ w5, w4.alloc (.cells #[.slice (some ⟨c4, 0, none⟩) l.length l.length, .slice (some ⟨d4, 0, none⟩) l'.length l'.length] 29) = w5 := ⟨_, rfl⟩
    have hX5 := box2_new w4 (.slice (some ⟨c4, 0, none⟩) l.length l.length) (.slice (some ⟨d4, 0, none⟩) l'.length l'.length) 29
    have hb5 := oBelow_new w4 (.cells #[.slice (some ⟨c4, 0, none⟩) l.length l.length, .slice (some ⟨d4, 0, none⟩) l'.length l'.length] 29)
    rw [hw5] at hX5 hb5
    have hA5 := hA4.below hb5
    have b05 := b04.trans (hb5.mono b04.size)
    obtain ⟨q0, q1⟩ := hX5.cells
    go_wp2_with fail
    refine (implSpanOk_any _ _ _ _ l l' _ (ho4.below hb5) (hq4.below hb5)).mono ?_
    rintro e w6 ⟨rfl, hb6⟩
    clear q0 q1 hw5
    have b06 := b05.trans (hb6.mono b05.size)
    have hA6 := hA5.below hb6
    have hX6 := hX5.below hb6
    have b46 := hb5.trans (hb6.mono hb5.size)
    obtain ⟨p0, p1⟩ := hA6.cells
    obtain ⟨q0, q1⟩ := hX6.cells
    have hX6d : Box2 w6.drew w4.heap.size (.slice (some ⟨c4, 0, none⟩) l.length l.length) (.slice (some ⟨d4, 0, none⟩) l'.length l'.length) := hX6
    have hA6d : Box2 w6.drew w.heap.size (.slice a l.length cap) (.slice a' l'.length cap') := hA6
    have b46d := b46.drew
    have b06d := b06.drew
    have hself := spanEqB_self l l'
    go_wp2_with fail
    go_region_held (fun v => (v.cell? ⟨w.heap.size, 0, none⟩ = some (.slice a l.length cap) ∧ v.cell? ⟨w.heap.size, 1, none⟩ = some (.slice a' l'.length cap')) ∧
        (v.cell? ⟨w4.heap.size, 0, none⟩ = some (.slice (some ⟨c4, 0, none⟩) l.length l.length) ∧ v.cell? ⟨w4.heap.size, 1, none⟩ = some (.slice (some ⟨d4, 0, none⟩) l'.length l'.length))) (go_keep)
      (first
      | (go_at_call 7; refine (toSpan_any _ _ _ _ l l' _ (h.below b06d) (h'.below b06d) hn hn').mono ?_; rintro e w7 ⟨c7, d7, M7, L7, K7, rfl, hL7, hK7, hr7, _, _, hs7, _, hb7⟩; obtain ⟨r0, r1⟩ := (hX6d.below hb7).cells; obtain ⟨s0, s1⟩ := (hA6d.below hb7).cells)
      | (go_at_call 9; refine (eqSpan_any _ _ _ _ _ _ _ _ l l' l l' _ (ho4.below (b46d.trans (hb7.mono b46d.size))) (hq4.below (b46d.trans (hb7.mono b46d.size))) (CopyP.left hr7 hL7) (CopyP.left hs7 hK7)).mono ?_; rintro e w8 ⟨rfl, hb8⟩; obtain ⟨t0, t1⟩ := ((hX6d.below hb7).below hb8).cells; obtain ⟨u0, u1⟩ := ((hA6d.below hb7).below hb8).cells))
    all_goals have b07 : Below w.heap.size w w7 := b06d.trans (hb7.mono b06d.size)
    all_goals have b08 : Below w.heap.size w w8 := b07.trans (hb8.mono b07.size)
    all_goals clear p0 p1 q0 q1
    all_goals go_wp2
    all_goals go_ret
    all_goals exact ⟨rfl, b08⟩
  · have hz : szDown 1048576 (spanSize l l') = -1 := if_pos (by omega)
    clear hse
    go_enter Try.func3, Try.ntmps3
    go_wp2_with fail
    refine (szSpan_any _ _ _ _ l l' _ _ (h.below b00) (h'.below b00) (by omega) (by omega)).mono ?_
    rintro e w1 ⟨rfl, hb1⟩
    rw [hz]
    clear hz
    go_wp2
    go_ret
    exact ⟨rfl, b00.trans (hb1.mono b00.size)⟩

set_option maxRecDepth 100000 in
theorem lifted (os : Os) (started : os.Started) (H : Type) (enc : TypeId × Value → H) :
    ReturnsInHanded {} Try.checked os 3 .any (Rows.fnExactSpanOkSpec.pre6 enc Try.prog Try.f3 Rows.fnExactSpanOkRow.domain false) (Rows.fnExactSpanOkSpec.post enc Try.prog Try.f3 false true false false) := by
  refine returnsInHanded_of_change (C := Try.checked) own started (by kernel_rfl) Try.func3
    (ChangeSpec.witness6 (enc := enc) (C := Try.checked) false ⟨#[], #[.agg #[.slice none 0 0, .slice none 0 0]], []⟩ 8 (by kernel_rfl) (by kernel_rfl) (by kernel_rfl) (by kernel_rfl)) ?_
  intro W base args ds gs before hval0 hW hcnd _
  have hval : ∀ (j : Nat) t v, Try.f3.params[j]? = some t → args[j]? = some v → Value.okWide Try.prog W .any base t v := hval0
  have hW' := hW
  obtain ⟨p, q, hA0, hV, rfl, hfz, hnd⟩ := hW
  have hA : DataW.TrodAll enc Try.prog W 0 (fun _ => true) true Try.f3.params.toList args.toList ds p := hA0
  rw [Try.params3] at hA hval
  obtain ⟨v0, vs0, d0, ds0, p0, q0, hargs, rfl, rfl, h0, r0⟩ := trodAll_cons hA
  obtain ⟨rfl, rfl, rfl⟩ := trodAll_nil r0
  obtain rfl : args = #[v0] := by cases args; simp_all
  obtain ⟨rfl, rfl⟩ := trodVars_none hV
  have k0 := h0
  have lt0 : ∀ x ∈ p0, x.block < W.heap.size := by obtain ⟨m, hm⟩ := k0; exact DataW.trod_lt m _ _ _ hm
  obtain ⟨a0, cap0, l0, aa0, capp0, ll0, rfl, e0, f0, ee0, ff0⟩ := open_span (hval 0 24 v0 rfl rfl) h0
  clear hA0 hval0
  refine (walk a0 cap0 l0 aa0 capp0 ll0 W e0 f0 ee0 ff0).mono fun e W' ⟨he, bel⟩ => ?_
  subst he
  exact ⟨_, rfl, _, _, _, [], _, [], hW', trodAll_mk1 (shut_bool Try.underlying4 _), (trodAll_cons_mk (Below.trod laidOut (by kernel_rfl) (of_decide_eq_true (by kernel_rfl)) k0 bel lt0) trodAll_mk0), rfl, bel.frame _, fun h => by cases h⟩

theorem over : Rows.fnExactSpanOkRow.holds Try.pinned (OpenSpec.ofChange Rows.fnExactSpanOkSpec) :=
  OpenClaim.holds_of_wide 3 Try.f3 rfl rfl rfl rfl rfl rfl rfl ⟨rfl, rfl, rfl, rfl, rfl⟩ rfl rfl rfl rfl rfl (by kernel_rfl) Try.func3 (by kernel_rfl)
    (of_decide_eq_true (by kernel_rfl)) (by unfold Func.isWrapper; first | (rw [if_pos (by decide +kernel)]; kernel_rfl) | (rw [if_neg (by decide +kernel)]; exact ⟨rfl, rfl⟩))
    (fun os started H enc _ => lifted os started H enc)
end Go.Proofs.Ytfgbihhbcmpgfaa.fnExactSpanOk
namespace Go.Proofs.Ytfgbihhbcmpgfaa
theorem fnExactSpanOk_holds : Rows.FnExactSpanOkSaid := fnExactSpanOk.over
#print axioms fnExactSpanOk_holds
end Go.Proofs.Ytfgbihhbcmpgfaa

