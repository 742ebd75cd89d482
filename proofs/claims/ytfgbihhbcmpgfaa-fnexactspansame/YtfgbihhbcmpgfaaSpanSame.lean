/- At every two spans of lists the program's SpanSame answers as the specification's; the arguments read afterwards as before. No condition. -/
import Derived.Test.YtfgbihhbcmpgfaaSpan2
namespace Go.Proofs.Ytfgbihhbcmpgfaa.fnExactSpanSame
open Go.ChangeShapes Go.WideShapes Go.ChangeAt Go.RowKit
set_option linter.unusedVariables false
set_option maxRecDepth 4000

set_option maxHeartbeats 4000000 in
theorem walk (a : Option Addr) (cap : Nat) (l : List Occ) (a' : Option Addr) (cap' : Nat) (l' : List Occ) (c : Option Addr) (cq : Nat) (m : List Occ) (c' : Option Addr) (cq' : Nat) (m' : List Occ) (w : World) (h : Occs w a l) (hf : ∀ o ∈ l, o.Wf) (h' : Occs w a' l') (hf' : ∀ o ∈ l', o.Wf) (g : Occs w c m) (hg : ∀ o ∈ m, o.Wf) (g' : Occs w c' m') (hg' : ∀ o ∈ m', o.Wf) :
    Calls Try.prog 4 #[.agg #[.slice a l.length cap, .slice a' l'.length cap'], .agg #[.slice c m.length cq, .slice c' m'.length cq']] w fun e w' => e = .returned (.bool true) ∧ Below w.heap.size w w' := by
  have hA00 := box2_new w (.slice a l.length cap) (.slice a' l'.length cap') 24
  have hB00 := box2_new (w.alloc (.cells #[.slice a l.length cap, .slice a' l'.length cap'] 24)) (.slice c m.length cq) (.slice c' m'.length cq') 24
  have b000 := oBelow_new w (.cells #[.slice a l.length cap, .slice a' l'.length cap'] 24)
  have b001 := oBelow_new (w.alloc (.cells #[.slice a l.length cap, .slice a' l'.length cap'] 24)) (.cells #[.slice c m.length cq, .slice c' m'.length cq'] 24)
  obtain ⟨w0, hw0⟩ : ∃ w0, (w.alloc (.cells #[.slice a l.length cap, .slice a' l'.length cap'] 24)).alloc (.cells #[.slice c m.length cq, .slice c' m'.length cq'] 24) = w0 := ⟨_, rfl⟩
  have hA0 := hA00.below b001
  have b00 := b000.trans (b001.mono b000.size)
  rw [hw0] at hA0 hB00 b00
  rw [World.size_alloc] at hB00
  obtain ⟨p0, p1⟩ := hA0.cells
  obtain ⟨q0, q1⟩ := hB00.cells
  by_cases hbig : (spanSize l l') ≤ 1048576
  · have hif : szDown 1048576 (spanSize l l') = 1048576 - ((spanSize l l') : Int) := if_neg (by omega)
    have hge : ¬ (1048576 - ((spanSize l l') : Int) < 0) := by omega
    by_cases hbig2 : (spanSize l l') + (spanSize m m') ≤ 1048576
    · have hif2 : szDown (1048576 - (spanSize l l')) (spanSize m m') = 1048576 - ((spanSize l l') : Int) - ((spanSize m m') : Int) := if_neg (by omega)
      have hge2 : ¬ (1048576 - ((spanSize l l') : Int) - ((spanSize m m') : Int) < 0) := by omega
      have hn1 : occsSize l ≤ 1048576 := by have : spanSize l l' = occsSize l + occsSize l' := rfl; omega
      have hn2 : occsSize l' ≤ 1048576 := by have : spanSize l l' = occsSize l + occsSize l' := rfl; omega
      have hn3 : occsSize m ≤ 1048576 := by have : spanSize m m' = occsSize m + occsSize m' := rfl; omega
      have hn4 : occsSize m' ≤ 1048576 := by have : spanSize m m' = occsSize m + occsSize m' := rfl; omega
      go_enter Try.func4, Try.ntmps4
      go_wp2_with fail
      refine (szSpan_any _ _ _ _ l l' _ _ (h.below b00) (h'.below b00) (by omega) (by omega)).mono ?_
      rintro e w1 ⟨rfl, hb1⟩
      rw [hif]
      clear hif p0 p1 q0 q1 hw0
      have b01 := b00.trans (hb1.mono b00.size)
      have hA1 := hA0.below hb1
      have hB1 := hB00.below hb1
      obtain ⟨q0, q1⟩ := hB1.cells
      go_wp2_with fail
      refine (szSpan_any _ _ _ _ m m' _ _ (g.below b01) (g'.below b01) (by omega) (by omega)).mono ?_
      rintro e w2 ⟨rfl, hb2⟩
      rw [hif2]
      clear hif2 q0 q1
      have b02 := b01.trans (hb2.mono b01.size)
      have hA2 := hA1.below hb2
      have hB2 := hB1.below hb2
      have hA2d : Box2 w2.drew w.heap.size (.slice a l.length cap) (.slice a' l'.length cap') := hA2
      have hB2d : Box2 w2.drew (w.heap.size + 1) (.slice c m.length cq) (.slice c' m'.length cq') := hB2
      have b02d := b02.drew
      obtain ⟨p0, p1⟩ := hA2.cells
      obtain ⟨q0, q1⟩ := hB2.cells
      go_wp2_with fail
      go_region_held (fun v => (v.cell? ⟨w.heap.size, 0, none⟩ = some (.slice a l.length cap) ∧ v.cell? ⟨w.heap.size, 1, none⟩ = some (.slice a' l'.length cap')) ∧ (v.cell? ⟨(w.heap.size + 1), 0, none⟩ = some (.slice c m.length cq) ∧ v.cell? ⟨(w.heap.size + 1), 1, none⟩ = some (.slice c' m'.length cq'))) (go_keep)
        (first
        | (go_at_call_of 7 (List.length l); refine (toSpan_any _ _ _ _ l l' _ (h.below b02d) (h'.below b02d) hn1 hn2).mono ?_; rintro e w3 ⟨b3, e3, M3, L3, K3, rfl, hL3, hK3, hr3, _, _, hs3, _, hb3⟩; obtain ⟨r0, r1⟩ := (hA2d.below hb3).cells; obtain ⟨s0, s1⟩ := (hB2d.below hb3).cells)
        | (go_at_call_of 7 (List.length m); refine (toSpan_any _ _ _ _ m m' _ (g.below (b02d.trans (hb3.mono b02d.size))) (g'.below (b02d.trans (hb3.mono b02d.size))) hn3 hn4).mono ?_; rintro e w4 ⟨b4, e4, M4, L4, K4, rfl, hL4, hK4, hr4, _, _, hs4, _, hb4⟩; obtain ⟨r0, r1⟩ := ((hA2d.below hb3).below hb4).cells; obtain ⟨s0, s1⟩ := ((hB2d.below hb3).below hb4).cells)
        | (go_at_call 10; refine (specSpanSame_any _ _ _ _ _ _ _ _ l l' m m' _ ((CopyP.left hr3 hL3).below hb4) ((CopyP.left hs3 hK3).below hb4) (CopyP.left hr4 hL4) (CopyP.left hs4 hK4) hf hf' hg hg').mono ?_; rintro e w5 ⟨rfl, hb5⟩; obtain ⟨r0, r1⟩ := (((hA2d.below hb3).below hb4).below hb5).cells; obtain ⟨s0, s1⟩ := (((hB2d.below hb3).below hb4).below hb5).cells))
      have b03 := b02d.trans (hb3.mono b02d.size)
      have b04 := b03.trans (hb4.mono b03.size)
      have b05 := b04.trans (hb5.mono b04.size)
      have hA5 := ((hA2d.below hb3).below hb4).below hb5
      have hB5 := ((hB2d.below hb3).below hb4).below hb5
      clear p0 p1 q0 q1
      obtain ⟨p0, p1⟩ := hA5.cells
      obtain ⟨q0, q1⟩ := hB5.cells
      go_wp2_with fail
      refine (toSpan_any _ _ _ _ l l' _ (h.below b05) (h'.below b05) hn1 hn2).mono ?_
      rintro e w6 ⟨b6, e6, M6, L6, K6, rfl, hL6, hK6, hr6, _, _, hs6, _, hb6⟩
      have b06 := b05.trans (hb6.mono b05.size)
      have hA6 := hA5.below hb6
      have hB6 := hB5.below hb6
      clear p0 p1 q0 q1
      obtain ⟨w7, hw7⟩ : ∃ w7, w6.alloc (.cells #[.slice (some ⟨b6, 0, none⟩) l.length l.length, .slice (some ⟨e6, 0, none⟩) l'.length l'.length] 29) = w7 := ⟨_, rfl⟩
      have hX7 := box2_new w6 (.slice (some ⟨b6, 0, none⟩) l.length l.length) (.slice (some ⟨e6, 0, none⟩) l'.length l'.length) 29
      have hb7 := oBelow_new w6 (.cells #[.slice (some ⟨b6, 0, none⟩) l.length l.length, .slice (some ⟨e6, 0, none⟩) l'.length l'.length] 29)
      rw [hw7] at hX7 hb7
      have hA7 := hA6.below hb7
      have hB7 := hB6.below hb7
      have b07 := b06.trans (hb7.mono b06.size)
      obtain ⟨q0, q1⟩ := hB7.cells
      go_wp2_with fail
      refine (toSpan_any _ _ _ _ m m' _ (g.below b07) (g'.below b07) hn3 hn4).mono ?_
      rintro e w8 ⟨b8, e8, M8, L8, K8, rfl, hL8, hK8, hr8, _, _, hs8, _, hb8⟩
      have b08 := b07.trans (hb8.mono b07.size)
      have hA8 := hA7.below hb8
      have hB8 := hB7.below hb8
      have hX8 := hX7.below hb8
      clear q0 q1 hw7
      obtain ⟨w9, hw9⟩ : ∃ w9, w8.alloc (.cells #[.slice (some ⟨b8, 0, none⟩) m.length m.length, .slice (some ⟨e8, 0, none⟩) m'.length m'.length] 29) = w9 := ⟨_, rfl⟩
      have hY9 := box2_new w8 (.slice (some ⟨b8, 0, none⟩) m.length m.length) (.slice (some ⟨e8, 0, none⟩) m'.length m'.length) 29
      have hb9 := oBelow_new w8 (.cells #[.slice (some ⟨b8, 0, none⟩) m.length m.length, .slice (some ⟨e8, 0, none⟩) m'.length m'.length] 29)
      rw [hw9] at hY9 hb9
      have hA9 := hA8.below hb9
      have hB9 := hB8.below hb9
      have hX9 := hX8.below hb9
      have b09 := b08.trans (hb9.mono b08.size)
      obtain ⟨p0, p1⟩ := hX9.cells
      obtain ⟨q0, q1⟩ := hY9.cells
      have b69 := (hb7.trans (hb8.mono hb7.size))
      have b69 := b69.trans (hb9.mono b69.size)
      go_wp2_with fail
      refine (implSpanSame_any _ _ _ _ _ _ _ _ l l' m m' _ ((CopyP.left hr6 hL6).below b69) ((CopyP.left hs6 hK6).below b69) ((CopyP.left hr8 hL8).below hb9) ((CopyP.left hs8 hK8).below hb9)).mono ?_
      rintro e w10 ⟨rfl, hb10⟩
      have b010 := b09.trans (hb10.mono b09.size)
      have b610 := b69.trans (hb10.mono b69.size)
      have b810 := hb9.trans (hb10.mono hb9.size)
      have hA10 := hA9.below hb10
      have hB10 := hB9.below hb10
      have hX10 := hX9.below hb10
      have hY10 := hY9.below hb10
      clear p0 p1 q0 q1 hw9
      obtain ⟨p0, p1⟩ := hA10.cells
      obtain ⟨q0, q1⟩ := hX10.cells
      have hA10d : Box2 w10.drew w.heap.size (.slice a l.length cap) (.slice a' l'.length cap') := hA10
      have hX10d : Box2 w10.drew w6.heap.size (.slice (some ⟨b6, 0, none⟩) l.length l.length) (.slice (some ⟨e6, 0, none⟩) l'.length l'.length) := hX10
      have hB10d : Box2 w10.drew (w.heap.size + 1) (.slice c m.length cq) (.slice c' m'.length cq') := hB10
      have hY10d : Box2 w10.drew w8.heap.size (.slice (some ⟨b8, 0, none⟩) m.length m.length) (.slice (some ⟨e8, 0, none⟩) m'.length m'.length) := hY10
      have b010d := b010.drew
      have b610d := b610.drew
      have b810d := b810.drew
      have hself := spanEqB_self l l'
      have hself' := spanEqB_self m m'
      go_wp2_with fail
      go_region_held (fun v => (v.cell? ⟨w.heap.size, 0, none⟩ = some (.slice a l.length cap) ∧ v.cell? ⟨w.heap.size, 1, none⟩ = some (.slice a' l'.length cap')) ∧ (v.cell? ⟨w6.heap.size, 0, none⟩ = some (.slice (some ⟨b6, 0, none⟩) l.length l.length) ∧ v.cell? ⟨w6.heap.size, 1, none⟩ = some (.slice (some ⟨e6, 0, none⟩) l'.length l'.length))) (go_keep)
        (first
        | (go_at_call 7; refine (toSpan_any _ _ _ _ l l' _ (h.below b010d) (h'.below b010d) hn1 hn2).mono ?_; rintro e w11 ⟨b11, e11, M11, L11, K11, rfl, hL11, hK11, hr11, _, _, hs11, _, hb11⟩; obtain ⟨r0, r1⟩ := (hX10d.below hb11).cells; obtain ⟨s0, s1⟩ := (hA10d.below hb11).cells)
        | (go_at_call 9; refine (eqSpan_any _ _ _ _ _ _ _ _ l l' l l' _ ((CopyP.left hr6 hL6).below (b610d.trans (hb11.mono b610d.size))) ((CopyP.left hs6 hK6).below (b610d.trans (hb11.mono b610d.size))) (CopyP.left hr11 hL11) (CopyP.left hs11 hK11)).mono ?_; rintro e w12 ⟨rfl, hb12⟩; obtain ⟨t0, t1⟩ := ((hX10d.below hb11).below hb12).cells; obtain ⟨u0, u1⟩ := ((hA10d.below hb11).below hb12).cells))
      have b011 := b010d.trans (hb11.mono b010d.size)
      have b012 := b011.trans (hb12.mono b011.size)
      have b811 := b810d.trans (hb11.mono b810d.size)
      have b812 := b811.trans (hb12.mono b811.size)
      have hB12 := (hB10d.below hb11).below hb12
      have hY12 := (hY10d.below hb11).below hb12
      clear p0 p1 q0 q1
      obtain ⟨p0, p1⟩ := hB12.cells
      obtain ⟨q0, q1⟩ := hY12.cells
      have hB12d : Box2 w12.drew (w.heap.size + 1) (.slice c m.length cq) (.slice c' m'.length cq') := hB12
      have hY12d : Box2 w12.drew w8.heap.size (.slice (some ⟨b8, 0, none⟩) m.length m.length) (.slice (some ⟨e8, 0, none⟩) m'.length m'.length) := hY12
      have b012d := b012.drew
      have b812d := b812.drew
      go_wp2_with fail
      go_region_held (fun v => (v.cell? ⟨(w.heap.size + 1), 0, none⟩ = some (.slice c m.length cq) ∧ v.cell? ⟨(w.heap.size + 1), 1, none⟩ = some (.slice c' m'.length cq')) ∧ (v.cell? ⟨w8.heap.size, 0, none⟩ = some (.slice (some ⟨b8, 0, none⟩) m.length m.length) ∧ v.cell? ⟨w8.heap.size, 1, none⟩ = some (.slice (some ⟨e8, 0, none⟩) m'.length m'.length))) (go_keep)
        (first
        | (go_at_call 7; refine (toSpan_any _ _ _ _ m m' _ (g.below b012d) (g'.below b012d) hn3 hn4).mono ?_; rintro e w13 ⟨b13, e13, M13, L13, K13, rfl, hL13, hK13, hr13, _, _, hs13, _, hb13⟩; obtain ⟨r0, r1⟩ := (hY12d.below hb13).cells; obtain ⟨s0, s1⟩ := (hB12d.below hb13).cells)
        | (go_at_call 9; refine (eqSpan_any _ _ _ _ _ _ _ _ m m' m m' _ ((CopyP.left hr8 hL8).below (b812d.trans (hb13.mono b812d.size))) ((CopyP.left hs8 hK8).below (b812d.trans (hb13.mono b812d.size))) (CopyP.left hr13 hL13) (CopyP.left hs13 hK13)).mono ?_; rintro e w14 ⟨rfl, hb14⟩; obtain ⟨t0, t1⟩ := ((hY12d.below hb13).below hb14).cells; obtain ⟨u0, u1⟩ := ((hB12d.below hb13).below hb14).cells))
      have b013 := b012d.trans (hb13.mono b012d.size)
      have b014 := b013.trans (hb14.mono b013.size)
      go_wp2
      go_ret
      exact ⟨rfl, b014⟩
    · have hif2 : szDown (1048576 - (spanSize l l')) (spanSize m m') = -1 := if_pos (by omega)
      go_enter Try.func4, Try.ntmps4
      go_wp2_with fail
      refine (szSpan_any _ _ _ _ l l' _ _ (h.below b00) (h'.below b00) (by omega) (by omega)).mono ?_
      rintro e w1 ⟨rfl, hb1⟩
      rw [hif]
      clear hif p0 p1 q0 q1 hw0
      have b01 := b00.trans (hb1.mono b00.size)
      have hB1 := hB00.below hb1
      obtain ⟨q0, q1⟩ := hB1.cells
      go_wp2_with fail
      refine (szSpan_any _ _ _ _ m m' _ _ (g.below b01) (g'.below b01) (by omega) (by omega)).mono ?_
      rintro e w2 ⟨rfl, hb2⟩
      rw [hif2]
      clear hif2 q0 q1
      go_wp2
      go_ret
      exact ⟨rfl, b01.trans (hb2.mono b01.size)⟩
  · have hif : szDown 1048576 (spanSize l l') = -1 := if_pos (by omega)
    go_enter Try.func4, Try.ntmps4
    go_wp2_with fail
    refine (szSpan_any _ _ _ _ l l' _ _ (h.below b00) (h'.below b00) (by omega) (by omega)).mono ?_
    rintro e w1 ⟨rfl, hb1⟩
    rw [hif]
    clear hif
    go_wp2
    go_ret
    exact ⟨rfl, b00.trans (hb1.mono b00.size)⟩

set_option maxRecDepth 100000 in
theorem lifted (os : Os) (started : os.Started) (H : Type) (enc : TypeId × Value → H) :
    ReturnsInHanded {} Try.checked os 4 .any (Rows.fnExactSpanSameSpec.pre6 enc Try.prog Try.f4 Rows.fnExactSpanSameRow.domain false) (Rows.fnExactSpanSameSpec.post enc Try.prog Try.f4 false true false false) := by
  refine returnsInHanded_of_change (C := Try.checked) own started (by kernel_rfl) Try.func4
    (ChangeSpec.witness6 (enc := enc) (C := Try.checked) false ⟨#[], #[.agg #[.slice none 0 0, .slice none 0 0], .agg #[.slice none 0 0, .slice none 0 0]], []⟩ 8 (by kernel_rfl) (by kernel_rfl) (by kernel_rfl) (by kernel_rfl)) ?_
  intro W base args ds gs before hval0 hW hcnd _
  have hval : ∀ (j : Nat) t v, Try.f4.params[j]? = some t → args[j]? = some v → Value.okWide Try.prog W .any base t v := hval0
  have hW' := hW
  obtain ⟨p, q, hA0, hV, rfl, hfz, hnd⟩ := hW
  have hA : DataW.TrodAll enc Try.prog W 0 (fun _ => true) true Try.f4.params.toList args.toList ds p := hA0
  rw [Try.params4] at hA hval
  obtain ⟨v0, vs0, d0, ds0, p0, q0, hargs, rfl, rfl, h0, r0⟩ := trodAll_cons hA
  obtain ⟨v1, vs1, d1, ds1, p1, q1, rfl, rfl, rfl, h1, r1⟩ := trodAll_cons r0
  obtain ⟨rfl, rfl, rfl⟩ := trodAll_nil r1
  obtain rfl : args = #[v0, v1] := by cases args; simp_all
  obtain ⟨rfl, rfl⟩ := trodVars_none hV
  have k0 := h0
  have lt0 : ∀ x ∈ p0, x.block < W.heap.size := by obtain ⟨m, hm⟩ := k0; exact DataW.trod_lt m _ _ _ hm
  have k1 := h1
  have lt1 : ∀ x ∈ p1, x.block < W.heap.size := by obtain ⟨m, hm⟩ := k1; exact DataW.trod_lt m _ _ _ hm
  obtain ⟨a0, cap0, l0, aa0, capp0, ll0, rfl, e0, f0, ee0, ff0⟩ := open_span (hval 0 24 v0 rfl rfl) h0
  obtain ⟨a1, cap1, l1, aa1, capp1, ll1, rfl, e1, f1, ee1, ff1⟩ := open_span (hval 1 24 v1 rfl rfl) h1
  clear hA0 hval0
  refine (walk a0 cap0 l0 aa0 capp0 ll0 a1 cap1 l1 aa1 capp1 ll1 W e0 f0 ee0 ff0 e1 f1 ee1 ff1).mono fun e W' ⟨he, bel⟩ => ?_
  subst he
  exact ⟨_, rfl, _, _, _, [], _, [], hW', trodAll_mk1 (shut_bool Try.underlying4 _), (trodAll_cons_mk (Below.trod laidOut (by kernel_rfl) (of_decide_eq_true (by kernel_rfl)) k0 bel lt0) (trodAll_cons_mk (Below.trod laidOut (by kernel_rfl) (of_decide_eq_true (by kernel_rfl)) k1 bel lt1) trodAll_mk0)), rfl, bel.frame _, fun h => by cases h⟩

theorem over : Rows.fnExactSpanSameRow.holds Try.pinned (OpenSpec.ofChange Rows.fnExactSpanSameSpec) :=
  OpenClaim.holds_of_wide 4 Try.f4 rfl rfl rfl rfl rfl rfl rfl ⟨rfl, rfl, rfl, rfl, rfl⟩ rfl rfl rfl rfl rfl (by kernel_rfl) Try.func4 (by kernel_rfl)
    (of_decide_eq_true (by kernel_rfl)) (by unfold Func.isWrapper; first | (rw [if_pos (by decide +kernel)]; kernel_rfl) | (rw [if_neg (by decide +kernel)]; exact ⟨rfl, rfl⟩))
    (fun os started H enc _ => lifted os started H enc)
end Go.Proofs.Ytfgbihhbcmpgfaa.fnExactSpanSame
namespace Go.Proofs.Ytfgbihhbcmpgfaa
theorem fnExactSpanSame_holds : Rows.FnExactSpanSameSaid := fnExactSpanSame.over
#print axioms fnExactSpanSame_holds
end Go.Proofs.Ytfgbihhbcmpgfaa

